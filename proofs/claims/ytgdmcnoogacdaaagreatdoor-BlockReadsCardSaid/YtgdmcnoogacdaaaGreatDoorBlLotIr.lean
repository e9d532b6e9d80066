/- In one text, written by lotify.py: IxRfM, IxRf, IxRfR. -/
import Derived.Test.YtgdmcnoogacdaaaGreatDoorBlLotR
import Derived.Test.YtgdmcnoogacdaaaGreatDoorIxHeld
namespace Go.Proofs.YtgdmcnoogacdaaaGreatDoor
set_option linter.unusedVariables false
section
variable {G:Nat->Nat->Nat->Nat->Prop} {X:Nat->ByteArray->Nat->Nat->Prop}
theorem tsO_end{a:Nat}{r:Option (List ByteArray × Nat)}(h:TsO X 0 a r):r=some ([],a):=by
 cases h
 rfl
theorem tsO_step{n a:Nat}{r:Option (List ByteArray × Nat)}(h:TsO X (n+1) a r):∃s k e,X a s k e/\(((e≠0\/64<s.size)/\r=none)\/(e=0/\s.size<=64/\∃r',TsO X n k r'/\r=glue [s] r')):=by
 cases h with
 | bad _ _ s k e h he=>exact ⟨s,k,e,h,.inl ⟨he,rfl⟩⟩
 | no _ _ s k h hs r=>exact ⟨s,k,0,h,.inr ⟨rfl,hs,none,r,rfl⟩⟩
 | more _ _ s k ts p h hs r=>exact ⟨s,k,0,h,.inr ⟨rfl,hs,_,r,rfl⟩⟩
theorem ssO_end{t:List ByteArray}{a:Nat}{r:Option (List (List Lbl) × Nat)}(h:SsO G t 0 a r):r=some ([],a):=by
 cases h
 rfl
theorem ssO_step{t:List ByteArray}{n a:Nat}{r:Option (List (List Lbl) × Nat)}(h:SsO G t (n+1) a r):∃m k e,G a m k e/\(((e≠0\/8<m)/\r=none)\/(e=0/\m<=8/\∃o,LsO G t m k o/\((o=none/\r=none)\/∃l j r',o=some (l,j)/\SsO G t n j r'/\r=glue [l] r'))):=by
 cases h with
 | bad _ _ m k e h he=>exact ⟨m,k,e,h,.inl ⟨he,rfl⟩⟩
 | wrong _ _ m k h hm r=>exact ⟨m,k,0,h,.inr ⟨rfl,hm,none,r,.inl ⟨rfl,rfl⟩⟩⟩
 | no _ _ m k l j h hm r r2=>exact ⟨m,k,0,h,.inr ⟨rfl,hm,_,r,.inr ⟨l,j,none,rfl,r2,rfl⟩⟩⟩
 | more _ _ m k l j ls z h hm r r2=>exact ⟨m,k,0,h,.inr ⟨rfl,hm,_,r,.inr ⟨l,j,_,rfl,r2,rfl⟩⟩⟩
theorem ixO_open{o:Option (List (List Lbl))}(h:IxO G X o):∃n k e,G 0 n k e/\(((e≠0\/4096<n)/\o=none)\/(e=0/\n<=4096/\∃o1,TsO X n k o1/\((o1=none/\o=none)\/∃t a,o1=some (t,a)/\∃m j e2,G a m j e2/\(((e2≠0\/256<m)/\o=none)\/(e2=0/\m<=256/\∃o2,SsO G t m j o2/\o=o2.map Prod.fst))))):=by
 cases h with
 | bad n k e h he=>exact ⟨n,k,e,h,.inl ⟨he,rfl⟩⟩
 | texts n k h hn r=>exact ⟨n,k,0,h,.inr ⟨rfl,hn,none,r,.inl ⟨rfl,rfl⟩⟩⟩
 | many n k t a m j e h hn r h2 he=>exact ⟨n,k,0,h,.inr ⟨rfl,hn,_,r,.inr ⟨t,a,rfl,m,j,e,h2,.inl ⟨he,rfl⟩⟩⟩⟩
 | sets n k t a m j h hn r h2 hm r2=>exact ⟨n,k,0,h,.inr ⟨rfl,hn,_,r,.inr ⟨t,a,rfl,m,j,0,h2,.inr ⟨rfl,hm,none,r2,rfl⟩⟩⟩⟩
 | ok n k t a m j _ z h hn r h2 hm r2=>exact ⟨n,k,0,h,.inr ⟨rfl,hn,_,r,.inr ⟨t,a,rfl,m,j,0,h2,.inr ⟨rfl,hm,_,r2,rfl⟩⟩⟩⟩
end
end Go.Proofs.YtgdmcnoogacdaaaGreatDoor

namespace Go.Proofs.YtgdmcnoogacdaaaGreatDoor
open Go.RowKit Go.Maps
set_option linter.unusedVariables false
set_option linter.unusedSimpArgs false
set_option maxRecDepth 100000
def Sm(l:List Lbl):Prop:=∀x∈l,x.1.size<=64/\x.2.size<=64
theorem sm_fits{l:List Lbl}(h:Sm l):LFits l:=by
 intro i hi;have hx:=h l[i] (List.getElem_mem hi);have e:l.getD i lbl0=l[i]:=by rw [List.getD_eq_getElem?_getD,List.getElem?_eq_getElem hi];rfl
 unfold nmOf vlOf;rw [e];omega
theorem rf_step_lbls{w:World}{ops:Array Oper}{o:Oper}{a:Act}{K:Act->World->Prop}{Q:Exit->Act->World->Prop}{E:Prop}(hgd:o.guard=none)(s y:Operand)
 (ho:o.op=.call { callee:=.builtin .append,args:=#[s,y],argTypes:=#[56,56] })
 (base:Nat)(v:Value)(x:List Lbl)(hs:a.eval s=v)(hown:OwnL w base v x)(A:Option Addr)(l:List Lbl)(c:Nat)(hy:a.eval y=.slice A l.length c)(hA:Lbls w A l)(hn:(x.length+l.length)*32<=140737488355328)(hbase:base<=w.heap.size)
 (h:∀v' w',OwnL w' base v' (x++l)->Below base w w'->w.grownBy w' v.ownBlock->K (a.put o.dst v') w'):
 if Region.wanted o (yielded ops a.tmps)=true then Oper.wp Tryz.prog o a w K Q else E:=by
 obtain ⟨i0,hi,hz0,hz1,hz2⟩:=info_parts label_info;refine step_app_at hgd s y 56 ho base 118 i0 _ 2 32 Tryz.underlying56 hi hz0 hz1 hz2 rfl (by omega) v x.length (x.flatMap lblE) hs hown A l.length c (l.flatMap lblE) hy (flat_len lblE 2 lblE_len l) hA (lbl_one l)
  (by simp only [maxLen];omega) hn hbase ?_
 intro v' w' h1 h2 h3;refine h v' w' ?_ h2 h3;unfold OwnL;rw [List.flatMap_append,List.length_append];exact h1
def RfTold(b:List UInt8)(w:World)(o:Option (List (List Lbl)))(e:Ending)(w':World):Prop :=
 Below w.heap.size w w'/\(((∀ss,o=some ss->¬(ixChk ss=0/\ixBytes ss=b))/\e=.returned (.tuple #[.slice none 0 0,.bool false])) \/
  ∃ss v,o=some ss/\ixChk ss=0/\ixBytes ss=b/\e=.returned (.tuple #[v,.bool true])/\OwnSets w' w.heap.size v ss)
theorem rf_none{b:List UInt8}{w w':World}{o:Option (List (List Lbl))}(h:Below w.heap.size w w')(ho:o=none):RfTold b w o (.returned (.tuple #[.slice none 0 0,.bool false])) w' :=
 ⟨h,.inl ⟨fun ss e=>(by rw [ho] at e;cases e),rfl⟩⟩
section
variable (A:Option Addr) (b:List UInt8) (c:Nat) (hbc:b.length<=c) (hbl:b.length<=140737488355328)
include hbc hbl
theorem rtext_ref(a:Nat)(s:ByteArray)(k e:Nat)(w:World)(hA:Bys w A b)(h:XO b a s k e):
 Calls Tryz.prog 89 #[.slice A b.length c,.int .i64 (a:Int)] w fun e' w'=>e'=.returned (.tuple #[.string s,.int .i64 (k:Int),.int .i64 (e:Int)])/\Below w.heap.size w w':=by
 obtain ⟨ha,n,nx,e0,h1,h2⟩:=h;exact gettext_ref A b c a n nx e0 s k e w hA hbc hbl (gu_small h1) (fun he=>(gu_place h1 he).2.1) ((getuint_ref A b c a n nx e0 w hA hbl ha h1).mono fun e' w' h=>⟨h.1,by rw [<-h.2];exact Below.refl _ _⟩) h2
set_option maxHeartbeats 16000000 in
theorem refof_prog(o:Option (List (List Lbl)))(w:World)(hA:Bys w A b)(h:IxO (GU b) (XO b) o):
 Calls Tryz.prog 50 #[.slice A b.length c] w (RfTold b w o):=by
 have HA:=zz (fun x (h:Below w.heap.size w x)=>(show Bys x A b from hA.below h));have HU:=zz (fun a n nx e x (hb:Below w.heap.size w x) (ha:a<=b.length) hg=>getuint_ref A b c a n nx e x (HA.out x hb) hbl ha hg);have HX:=zz (fun a s k e x (hb:Below w.heap.size w x) h=>rtext_ref A b c hbc hbl a s k e x (HA.out x hb) h);have HCB0:=zz (fun x (h:Below w.heap.size w x)=>conv_bys x A b c (HA.out x h));have HLEN:=zz hbl;clear hA hbc hbl;obtain ⟨n,k,e0,hg,h⟩:=ixO_open h;have HU0:=zz (HU.out 0 n k e0 w (Below.refl _ _) (Nat.zero_le _) hg);have HK0:=zz (fun (h0:e0=0)=>(gu_place hg h0).1);clear hg;obtain ⟨nb,hnb⟩:∃nb,b.length=nb:=⟨_,rfl⟩;have HNB:=zz hnb;rw [hnb] at HU HX HCB0 HU0 HK0 ⊢;clear hnb HA;rcases h with ⟨hbad,hon⟩|⟨rfl,hn,o1,hts,hrest⟩
 ·have HON:=zz hon;clear hon;have HBR:=zz (Below.refl w.heap.size w);go_enter Tryz.func50,Tryz.ntmps50
  by_cases he0:e0≠0
  ·have j1:(((e0:Nat):Int) !=0)=true:=bne_iff_ne.2 (by omega);clear he0 hbad
   go_wp2_with fail
   refine HU0.out.mono ?_;rintro e w' ⟨rfl,rfl⟩
   go_wp2_with fail
   go_ret2;exact rf_none HBR.out HON.out
  ·obtain rfl:e0=0:=by omega
   have hgt:=hbad.resolve_left (fun h=>h rfl);have j1:decide (((n:Nat):Int)>4096)=true:=decide_eq_true (by omega);have j2:decide ((4096:Int)<((n:Nat):Int))=true:=decide_eq_true (by omega);clear he0 hbad hgt
   go_wp2_with fail
   refine HU0.out.mono ?_;rintro e w' ⟨rfl,rfl⟩
   go_wp2_with fail
   go_ret2;exact rf_none HBR.out HON.out
 ·have HR0:=zz (fun (h:o1=none)=>(show o=none from by
   rcases hrest with ⟨_,h2⟩|⟨t,a,h2,_⟩
   ·exact h2
   ·rw [h] at h2;cases h2))
  have HR1:=zz (fun t a (h:o1=some (t,a))=>(show ∃m j e2,GU b a m j e2/\(((e2≠0\/256<m)/\o=none)\/(e2=0/\m<=256/\∃o2,SsO (GU b) t m j o2/\o=o2.map Prod.fst)) from by
   rcases hrest with ⟨h2,_⟩|⟨t',a',h2,h3⟩
   ·rw [h] at h2;cases h2
   ·rw [h] at h2;cases h2;exact h3))
  have HTS:=zz hts;have HKK:=zz (HK0.out rfl);clear hts hrest HK0;have i0:decide ((n:Int)>4096)=false:=decide_eq_false (by omega);have i00:decide ((4096:Int)<(n:Int))=false:=decide_eq_false (by omega);go_enter Tryz.func50,Tryz.ntmps50
  go_wp2_with fail
  refine HU0.out.mono ?_;rintro e w' ⟨rfl,rfl⟩;clear HU0
  go_wp2_with fail
  go_loopw [7,5,8] (fun u p i wx=>∃(j:Nat) (ts:List ByteArray) (a:Nat) (r:Option (List ByteArray × Nat)),j<=n/\i=.int .i64 (j:Int)/\p=.int .i64 (a:Int)/\a<=nb/\OwnTx wx w.heap.size u ts/\ts.length=j/\(∀s∈ts,s.size<=64)/\TsO (XO b) (n-j) a r/\o1=glue ts r/\Below w.heap.size w wx) (fun _ _ i _=>n-(intOf i).toNat)
  case atStart=>exact ⟨0,[],k,o1,Nat.zero_le _,rfl,rfl,HKK.out,⟨rfl,.inl ⟨rfl,rfl⟩⟩,rfl,fun s hs=>(by cases hs),HTS.out,by cases o1<;>rfl,Below.refl _ _⟩
  case round =>
   obtain ⟨j,ts,a,r,hj,rfl,rfl,ha,hO,hlj,h64,hT,hgl,hb⟩:=hrel;have HB:=zz hb;have HO:=zz hO
   by_cases hlt:j<n
   ·obtain ⟨q,hq⟩:∃q,n-j=q+1:=⟨n-j-1,by omega⟩;rw [hq] at hT;have i1:(j:Int)<(n:Int):=by omega
    obtain ⟨s,k2,e2,hx,h⟩:=tsO_step hT;have HXX:=zz (HX.out a s k2 e2 wr hb hx);rcases h with ⟨hbad,rfl⟩|⟨rfl,hs64,r',hT',rfl⟩
    ·have HON:=zz (HR0.out hgl);clear hO hT hgl hb hx h64
     by_cases he0:e2≠0
     ·have j1:((e2:Int) !=0)=true:=bne_iff_ne.2 (by omega);clear he0 hbad
      go_wp2_with (first|(go_at_call 89;refine HXX.out.mono ?_;rintro e w5 ⟨rfl,hb5⟩;have HB5:=zz (below_then HB.out hb5);clear hb5))
      go_ret2;exact rf_none HB5.out HON.out
     ·obtain rfl:e2=0:=by omega
      have hgt:=hbad.resolve_left (fun h=>h rfl);have j1:decide ((s.size:Int)>64)=true:=decide_eq_true (by omega);have j2:decide ((64:Int)<(s.size:Int))=true:=decide_eq_true (by omega);clear he0 hbad hgt
      go_wp2_with (first|(go_at_call 89;refine HXX.out.mono ?_;rintro e w5 ⟨rfl,hb5⟩;have HB5:=zz (below_then HB.out hb5);clear hb5))
      go_ret2;exact rf_none HB5.out HON.out
    ·have HXP:=zz (show k2<=nb by rw [<-HNB.out];exact xo_place hx);have HT2:=zz (show TsO (XO b) (n-(j+1)) k2 r' by rw [show n-(j+1)=q by omega];exact hT');have HON:=zz (show o1=glue (ts++[s]) r' by rw [<-glue_glue];exact hgl);have HLJ:=zz hlj;have H64:=zz (show ∀x∈ts++[s],x.size<=64 from fun x hx=>by
      rcases List.mem_append.1 hx with h|h
      ·exact h64 x h
      ·rw [List.mem_singleton.1 h];exact hs64)
     have j1:decide ((s.size:Int)>64)=false:=decide_eq_false (by omega);have j2:decide ((64:Int)<(s.size:Int))=false:=decide_eq_false (by omega);clear hO hT hT' hgl hb hx hlj h64 hs64
     go_wp2_with (first
      | (go_at_call 89;refine HXX.out.mono ?_;rintro e w5 ⟨rfl,hb5⟩;have HO5:Hid (OwnTx w5 w.heap.size _ ts):=zz (rows_below HO.out hb5);have HB5:=zz (below_then HB.out hb5);clear hb5)
      | (at_builtin;refine app_t rfl (.tmp 56) (.tmp 58) rfl w.heap.size _ ts rfl HO5.out s 1 rfl (by have:=HLJ.out;omega) HB5.out.size ?_;intro v6 w6 ho6 hb6;have HO6:=zz ho6;have HB6:=zz (HB5.out.trans hb6);clear ho6 hb6))
     go_roundw
     case rel=>exact ⟨j+1,ts++[s],k2,r',hlt,by go_num,rfl,HXP.out,HO6.out,by have:=HLJ.out;simp;omega,H64.out,HT2.out,HON.out,HB6.out⟩
     case measure=>simp [intOf];omega
   ·have hz:n-j=0:=by omega
    rw [hz] at hT;have hr:=tsO_end hT;subst hr;obtain ⟨m,k1,e2,hg2,h2⟩:=HR1.out ts a (by rw [hgl];simp [glue]);obtain ⟨P,d,hv,hd,_⟩:=rows_slice hO;have hTx:Tx wr P ts:=owntx_tx (by rw [<-hv];exact hO);have HTX:=zz (fun x (h:Below wr.heap.size wr x)=>hTx.below h);have HU1:=zz (HU.out a m k1 e2 wr hb ha hg2);have HK1:=zz (fun (h0:e2=0)=>(show k1<=nb by rw [<-HNB.out];exact (gu_place hg2 h0).1));have HTL:=zz (show ts.length<=4096 by omega);have H64:=zz h64;clear hO hT hgl hb hlj ha h64 hg2 hTx HO HR1 HR0 HTS hd;subst hv;rcases h2 with ⟨hbad,hon⟩|⟨rfl,hm,o2,hS,hoo⟩
    ·have HON:=zz hon;clear hon
     by_cases he0:e2≠0
     ·have j1:(((e2:Nat):Int) !=0)=true:=bne_iff_ne.2 (by omega);clear he0 hbad
      go_wp2_with fail
      refine HU1.out.mono ?_;rintro e w' ⟨rfl,rfl⟩
      go_wp2_with fail
      go_ret2;exact rf_none HB.out HON.out
     ·obtain rfl:e2=0:=by omega
      have hgt:=hbad.resolve_left (fun h=>h rfl);have j1:decide (((m:Nat):Int)>256)=true:=decide_eq_true (by omega);have j2:decide ((256:Int)<((m:Nat):Int))=true:=decide_eq_true (by omega);clear he0 hbad hgt
      go_wp2_with fail
      refine HU1.out.mono ?_;rintro e w' ⟨rfl,rfl⟩
      go_wp2_with fail
      go_ret2;exact rf_none HB.out HON.out
    ·have HKM:=zz (HK1.out rfl);have HS:=zz hS;have HOO:=zz hoo;clear hS hoo HK1;generalize wr=w2 at *;have i2:decide ((m:Int)>256)=false:=decide_eq_false (by omega);have i22:decide ((256:Int)<(m:Int))=false:=decide_eq_false (by omega);obtain ⟨nt,hnt⟩:∃nt,ts.length=nt:=⟨_,rfl⟩;have HNT:=zz hnt;rw [hnt] at HTL ⊢;clear hnt
     go_wp2_with fail
     refine HU1.out.mono ?_;rintro e w' ⟨rfl,rfl⟩;clear HU1
     go_wp2_with fail
     go_loopw [13,5,14] (fun u p i wx=>∃(jj:Nat) (ss:List (List Lbl)) (a:Nat) (r:Option (List (List Lbl) × Nat)),jj<=m/\i=.int .i64 (jj:Int)/\p=.int .i64 (a:Int)/\a<=nb/\OwnSets wx w2.heap.size u ss/\ss.length=jj/\(∀l∈ss,l.length<=8/\Sm l)/\SsO (GU b) ts (m-jj) a r/\o2=glue ss r/\Below w2.heap.size w2 wx) (fun _ _ i _=>m-(intOf i).toNat)
     case atStart=>exact ⟨0,[],k1,o2,Nat.zero_le _,rfl,rfl,HKM.out,ownsets_nil _ _,rfl,fun l hl=>(by cases hl),HS.out,by cases o2<;>rfl,Below.refl _ _⟩
     case round =>
      obtain ⟨jj,ss,a2,r,hj2,rfl,rfl,ha2,hOS,hlj2,h8,hS2,hgl2,hb2⟩:=hrel;have HB2:=zz (below_then HB.out hb2);have HBB:=zz hb2;have HOS:=zz hOS
      by_cases hlt2:jj<m
      ·obtain ⟨q2,hq2⟩:∃q,m-jj=q+1:=⟨m-jj-1,by omega⟩;rw [hq2] at hS2;have i1:(jj:Int)<(m:Int):=by omega
       obtain ⟨m2,k2,e3,hg3,h3⟩:=ssO_step hS2;have HU2:=zz (HU.out a2 m2 k2 e3 wr HB2.out ha2 hg3);have HK3:=zz (fun (h0:e3=0)=>(show k2<=nb by rw [<-HNB.out];exact (gu_place hg3 h0).1));rcases h3 with ⟨hbad,hr⟩|⟨rfl,hm2,o3,hL3,h3⟩
       ·have HON:=zz (show o=none by rw [HOO.out,hgl2,hr];rfl);clear hOS hS2 hgl2 hb2 h8 hr hg3 HK3
        by_cases he0:e3≠0
        ·have j1:(((e3:Nat):Int) !=0)=true:=bne_iff_ne.2 (by omega);clear he0 hbad
         go_wp2_with fail
         refine HU2.out.mono ?_;rintro e w' ⟨rfl,rfl⟩
         go_wp2_with fail
         go_ret2;exact rf_none HB2.out HON.out
        ·obtain rfl:e3=0:=by omega
         have hgt:=hbad.resolve_left (fun h=>h rfl);have j1:decide (((m2:Nat):Int)>8)=true:=decide_eq_true (by omega);have j2:decide ((8:Int)<((m2:Nat):Int))=true:=decide_eq_true (by omega);clear he0 hbad hgt
         go_wp2_with fail
         refine HU2.out.mono ?_;rintro e w' ⟨rfl,rfl⟩
         go_wp2_with fail
         go_ret2;exact rf_none HB2.out HON.out
       ·have HN3:=zz (fun (h:o3=none)=>(show o=none from by
         rcases h3 with ⟨_,h2⟩|⟨l,j,r',h2,_⟩
         ·rw [HOO.out,hgl2,h2];rfl
         ·rw [h] at h2;cases h2))
        have HY3:=zz (fun l j (h:o3=some (l,j))=>(show ∃r',SsO (GU b) ts q2 j r'/\r=glue [l] r' from by
         rcases h3 with ⟨h2,_⟩|⟨l',j',r',h2,h4,h5⟩
         ·rw [h] at h2;cases h2
         ·rw [h] at h2;cases h2;exact ⟨r',h4,h5⟩))
        have HL3:=zz hL3;have HKZ:=zz (HK3.out rfl);have HG2:=zz hgl2;have H8:=zz h8;have HLJ2:=zz hlj2;have HM8:=zz hm2;have HMM:=zz hm;have i3:decide ((m2:Int)>8)=false:=decide_eq_false (by omega);have i33:decide ((8:Int)<(m2:Int))=false:=decide_eq_false (by omega);clear hOS hS2 hgl2 hb2 h8 h3 hL3 hg3 HK3 hlj2
        go_wp2_with fail
        refine HU2.out.mono ?_;rintro e w' ⟨rfl,rfl⟩;clear HU2;generalize wr=w4 at *
        go_wp2_with fail
        go_loopw [18,5,19] (fun u p i wx=>∃(j:Nat) (l:List Lbl) (a:Nat) (r':Option (List Lbl × Nat)),j<=m2/\i=.int .i64 (j:Int)/\p=.int .i64 (a:Int)/\a<=nb/\OwnL wx w4.heap.size u l/\l.length=j/\Sm l/\LsO (GU b) ts (m2-j) a r'/\o3=glue l r'/\Below w4.heap.size w4 wx) (fun _ _ i _=>m2-(intOf i).toNat)
        case atStart=>exact ⟨0,[],k2,o3,Nat.zero_le _,rfl,rfl,HKZ.out,ownl_nil _ _,rfl,fun x hx=>(by cases hx),HL3.out,by cases o3<;>rfl,Below.refl _ _⟩
        case round =>
         obtain ⟨j3,l,a3,r3,hj3,rfl,rfl,ha3,hOL,hlj3,hsm,hL,hgl3,hb4⟩:=hrel;have HB4:=zz hb4;have HBW:=zz (below_then HB2.out hb4);have HOL:=zz hOL
         by_cases hlt3:j3<m2
         ·obtain ⟨q3,hq3⟩:∃q,m2-j3=q+1:=⟨m2-j3-1,by omega⟩;rw [hq3] at hL;have i4:(j3:Int)<(m2:Int):=by omega
          obtain ⟨p,k3,e4,hg4,h4⟩:=lsO_step hL;have HU3:=zz (HU.out a3 p k3 e4 wr HBW.out ha3 hg4);rw [HNT.out] at h4;rcases h4 with ⟨hbad,hr⟩|⟨rfl,hp,q,k4,e5,hg5,h5⟩
          ·have HON:=zz (HN3.out (by rw [hgl3,hr];rfl));clear hOL hL hgl3 hb4 hr hg4 hsm
           by_cases he0:e4≠0
           ·have j1:(((e4:Nat):Int) !=0)=true:=bne_iff_ne.2 (by omega);clear he0 hbad
            go_wp2_with fail
            refine HU3.out.mono ?_;rintro e w' ⟨rfl,rfl⟩
            go_wp2_with fail
            go_ret2;exact rf_none HBW.out HON.out
           ·obtain rfl:e4=0:=by omega
            have hgt:=hbad.resolve_left (fun h=>h rfl);have j1:decide (((p:Nat):Int)>=((nt:Nat):Int))=true:=decide_eq_true (by omega);have j2:decide ((((nt:Nat):Int):Int)<=((p:Nat):Int))=true:=decide_eq_true (by omega);have j3:(((nt:Nat):Int):Int)<=((p:Nat):Int):=by omega
            clear he0 hbad
            go_wp2_with fail
            refine HU3.out.mono ?_;rintro e w' ⟨rfl,rfl⟩
            go_wp2_with fail
            go_ret2;exact rf_none HBW.out HON.out
          ·have hk3:k3<=nb:=by rw [<-HNB.out];exact (gu_place hg4 rfl).1
           have HU4:=zz (HU.out k3 q k4 e5 wr HBW.out hk3 hg5);have HK5:=zz (fun (h0:e5=0)=>(show k4<=nb by rw [<-HNB.out];exact (gu_place hg5 h0).1));have i5:decide ((p:Int)>=(nt:Int))=false:=decide_eq_false (by omega);have i55:decide ((nt:Int)<=(p:Int))=false:=decide_eq_false (by omega);have i56:(p:Int)<(nt:Int):=by omega
           rcases h5 with ⟨hbad,hr⟩|⟨rfl,hq,r4,hT4,hr⟩
           ·have HON:=zz (HN3.out (by rw [hgl3,hr];rfl));clear hOL hL hgl3 hb4 hr hg4 hg5 hsm hk3
            by_cases he0:e5≠0
            ·have j1:(((e5:Nat):Int) !=0)=true:=bne_iff_ne.2 (by omega);clear he0 hbad
             go_wp2_with fail
             refine HU3.out.mono ?_;rintro e w' ⟨rfl,rfl⟩
             go_wp2_with fail
             refine HU4.out.mono ?_;rintro e w' ⟨rfl,rfl⟩
             go_wp2_with fail
             go_ret2;exact rf_none HBW.out HON.out
            ·obtain rfl:e5=0:=by omega
             have hgt:=hbad.resolve_left (fun h=>h rfl);have j1:decide ((q:Int)>=(nt:Int))=true:=decide_eq_true (by omega);have j2:decide ((nt:Int)<=(q:Int))=true:=decide_eq_true (by omega);have j3:(nt:Int)<=(q:Int):=by omega
             clear he0 hbad
             go_wp2_with fail
             refine HU3.out.mono ?_;rintro e w' ⟨rfl,rfl⟩
             go_wp2_with fail
             refine HU4.out.mono ?_;rintro e w' ⟨rfl,rfl⟩
             go_wp2_with fail
             go_ret2;exact rf_none HBW.out HON.out
           ·obtain ⟨b1,o1,hPe,hb1,c1⟩:=(HTX.out w4 HBB.out).at_ (show p<ts.length by rw [HNT.out];exact hp);obtain ⟨b2,o2',hPe2,hb2',c2⟩:=(HTX.out w4 HBB.out).at_ (show q<ts.length by rw [HNT.out];exact hq);subst hPe;have e2':=Option.some.inj hPe2;simp only [Addr.mk.injEq,and_true] at e2';obtain ⟨rfl,rfl⟩:=e2';have hs1:(ts.getD p txt0).size<=64:=H64.out _ (by rw [getD_at (by rw [HNT.out];exact hp)];exact List.getElem_mem _);have hs2:(ts.getD q txt0).size<=64:=H64.out _ (by rw [getD_at (by rw [HNT.out];exact hq)];exact List.getElem_mem _);have HON:=zz (show o3=glue (l++[(ts.getD p txt0,ts.getD q txt0)]) r4 by rw [<-glue_glue,hgl3,hr];rfl);generalize ts.getD p txt0=s1 at *;generalize ts.getD q txt0=s2 at *;have HT4:=zz (show LsO (GU b) ts (m2-(j3+1)) k4 r4 by rw [show m2-(j3+1)=q3 by omega];exact hT4);have HSM:=zz (show Sm (l++[(s1,s2)]) from fun x hx=>by
             rcases List.mem_append.1 hx with h|h
             ·exact hsm x h
             ·rw [List.mem_singleton.1 h];exact ⟨hs1,hs2⟩)
            have HLJ:=zz hlj3;have HK4:=zz (HK5.out rfl);have HT1:=zz (fun x (h:Below w4.heap.size w4 x)=>(h.cell (p:=⟨b1,o1+p,none⟩) hb1).trans c1);have HT2:=zz (fun x (h:Below w4.heap.size w4 x)=>(h.cell (p:=⟨b1,o1+q,none⟩) hb1).trans c2);have i6:decide ((q:Int)>=(nt:Int))=false:=decide_eq_false (by omega);have i66:decide ((nt:Int)<=(q:Int))=false:=decide_eq_false (by omega);have i67:(q:Int)<(nt:Int):=by omega
            have sD:wr.drew.cell? ⟨b1,o1+p,none⟩=some (.string s1)/\wr.drew.cell? ⟨b1,o1+q,none⟩=some (.string s2):=⟨HT1.out _ hb4.drew,HT2.out _ hb4.drew⟩;have hbD:b1<wr.drew.heap.size:=Nat.lt_of_lt_of_le hb1 hb4.size;have HROW:=zz (show Row (wr.drew.alloc (.cells #[.string s1,.string s2] 118)) wr.heap.size 118 #[.string s1,.string s2] from Row.new wr.drew 118 #[.string s1,.string s2]);have HB48:=zz (below_then hb4.drew (below_one wr.drew (.cells #[.string s1,.string s2] 118)));have HO8:=zz (ownl_below (show OwnL wr.drew w4.heap.size _ l from rows_move hOL fun _ _=>rfl) (below_one wr.drew (.cells #[.string s1,.string s2] 118)));clear hOL hL hT4 hgl3 hr hg4 hg5 hsm hlj3 hk3 c1 c2 hPe2 hs1 hs2 hb4
            go_wp2_with fail
            refine HU3.out.mono ?_;rintro e w' ⟨rfl,rfl⟩
            go_wp2_with fail
            refine HU4.out.mono ?_;rintro e w' ⟨rfl,rfl⟩
            go_upto_region 34 with fail
            refine wp_region_held_drew (S:=fun w'=>w'.cell? ⟨b1,o1+p,none⟩=some (.string s1)/\w'.cell? ⟨b1,o1+q,none⟩=some (.string s2)) (by kernel_rfl) ?_ (fun hHeld=>?_)
            ·exact sD
            refine tk 0 ⟨some 128,.move (.tmp 18),56, "ref.go:168",#[],none⟩ ?_
            try simp only [Act.put,lsA,lsB,lsC]
            refine tk 1 ⟨some 129,.move (.tmp 7),111, "ref.go:168",#[],none⟩ ?_
            try simp only [Act.put,lsA,lsB,lsC]
            refine tk 2 ⟨some 130,.move (.tmp 20),3, "ref.go:168",#[],none⟩ ?_
            try simp only [Act.put,lsA,lsB,lsC]
            refine tk 3 ⟨some 131,.indexAddr 111 (.tmp 129) (.tmp 130),0, "ref.go:168",#[⟨1,.data⟩,⟨2,.data⟩],none⟩ ?_
            try simp only [Act.put,lsA,lsB,lsC]
            refine tk 4 ⟨some 132,.load 9 (.tmp 131),9, "ref.go:168",#[⟨3,.data⟩],none⟩ ?_
            try simp only [Act.put,lsA,lsB,lsC]
            refine tk 5 ⟨some 133,.move (.tmp 7),111, "ref.go:168",#[],none⟩ ?_
            try simp only [Act.put,lsA,lsB,lsC]
            refine tk 6 ⟨some 134,.move (.tmp 23),3, "ref.go:168",#[],none⟩ ?_
            try simp only [Act.put,lsA,lsB,lsC]
            refine tk 7 ⟨some 135,.indexAddr 111 (.tmp 133) (.tmp 134),0, "ref.go:168",#[⟨5,.data⟩,⟨6,.data⟩],none⟩ ?_
            try simp only [Act.put,lsA,lsB,lsC]
            refine tk 8 ⟨some 136,.load 9 (.tmp 135),9, "ref.go:168",#[⟨7,.data⟩],none⟩ ?_
            try simp only [Act.put,lsA,lsB,lsC]
            refine tk 9 ⟨some 137,.build 118 #[(0,.tmp 132),(1,.tmp 136)],118, "ref.go:168",#[⟨4,.data⟩,⟨8,.data⟩],none⟩ ?_
            try simp only [Act.put,lsA,lsB,lsC]
            refine wpAnyH_ready (rs:=[10]) (by kernel_rfl) (by simp) ?_;refine AllReadyH.cons (o:=⟨some 138,.buildSlice 56 1 #[(0,.tmp 137)],56, "ref.go:168",#[⟨9,.data⟩],none⟩) rfl (fun K hK=>?_) AllReadyH.nil
            go_simp
            refine hK.out _ _ ?_ (fun hHeld=>?_)
            ·exact ⟨((below_one _ _).cell (p:=⟨b1,o1+p,none⟩) hbD).trans sD.1,((below_one _ _).cell (p:=⟨b1,o1+q,none⟩) hbD).trans sD.2⟩
            clear hK K
            try simp only [Act.put,lsA,lsB,lsC]
            refine wpAnyH_ready (rs:=[11]) (by kernel_rfl) (by simp) ?_;refine AllReadyH.cons (o:=⟨some 139,.call { callee:=.builtin .append,args:=#[.tmp 128,.tmp 138],argTypes:=#[56,56] },56, "ref.go:168",#[⟨0,.data⟩,⟨10,.data⟩],none⟩) rfl (fun K hK=>?_) AllReadyH.nil;refine rf_step_lbls rfl (.tmp 128) (.tmp 138) rfl w4.heap.size _ l rfl HO8.out _ [(s1,s2)] 1 rfl (lbls_cell HROW.out) (by have:=HLJ.out;have:=HM8.out;simp only [List.length_cons,List.length_nil];omega) HB48.out.size ?_;intro v9 w9 ho9 hb9 _;have HO9:=zz ho9;have hb49:Below w4.heap.size w4 w9:=HB48.out.trans hb9;have HB49:=zz hb49;refine hK.out _ _ ?_ (fun hHeld=>?_)
            ·exact ⟨HT1.out _ hb49,HT2.out _ hb49⟩
            clear hK K ho9 hb9 hb49
            try simp only [Act.put,lsA,lsB,lsC]
            refine tk 12 ⟨some 18,.assign (.tmp 139),56, "ref.go:168",#[⟨11,.data⟩,⟨11,.chain⟩,⟨0,.phase⟩,⟨1,.phase⟩,⟨2,.phase⟩,⟨3,.phase⟩,⟨4,.phase⟩,⟨5,.phase⟩,⟨6,.phase⟩,⟨7,.phase⟩,⟨8,.phase⟩,⟨9,.phase⟩,⟨10,.phase⟩,⟨11,.phase⟩],none⟩ ?_
            try simp only [Act.put,lsA,lsB,lsC]
            refine wpAnyH_done (by kernel_rfl) ?_ _
            go_wp2_with fail
            go_roundw
            case rel=>exact ⟨j3+1,l++[(s1,s2)],k4,r4,hlt3,by go_num,rfl,HK4.out,HO9.out,by have:=HLJ.out;simp;omega,HSM.out,HT4.out,HON.out,HB49.out⟩
            case measure=>simp [intOf];omega
         ·have hz3:m2-j3=0:=by omega
          rw [hz3] at hL;have hr3:=lsO_end hL;subst hr3;obtain ⟨r5,hS5,hr5⟩:=HY3.out l a3 (by rw [hgl3];simp [glue]);have HS5:=zz (show SsO (GU b) ts (m-(jj+1)) a3 r5 by rw [show m-(jj+1)=q2 by omega];exact hS5);have HG5:=zz (show o2=glue (ss++[l]) r5 by rw [<-glue_glue,HG2.out,hr5]);obtain ⟨P4,d4,hv4,hd4,hL4,_⟩:=ownl_slice hOL;subst hv4;have HL4:=zz hL4;have HD4:=zz hd4;have HO4:=zz (ownl_lower hOL HBB.out.size);have HS4:=zz (ownsets_below HOS.out hb4);have HBB4:=zz (below_then HBB.out hb4);have HA3:=zz ha3;have H88:=zz (show ∀y∈ss++[l],y.length<=8/\Sm y from fun y hy=>by
           rcases List.mem_append.1 hy with h|h
           ·exact H8.out y h
           ·rw [List.mem_singleton.1 h];exact ⟨by have:=HM8.out;omega,hsm⟩)
          clear hOL hL hgl3 hS5 hr5 hd4 hL4 hsm ha3 hb4 hlj3 HOL
          go_wp2_with (first
           | (at_builtin;refine app_set rfl (.tmp 141) (.tmp 143) rfl w2.heap.size _ ss rfl HS4.out P4 l d4 1 HO4.out HD4.out HL4.out rfl (by have:=HLJ2.out;have:=HMM.out;omega) HBB4.out.size ?_;intro v6 w6 ho6 hb6;have HO6:=zz ho6;have HBB6:=zz (HBB4.out.trans hb6);clear ho6 hb6))
          go_roundw
          case rel=>exact ⟨jj+1,ss++[l],a3,r5,hlt2,by go_num,rfl,HA3.out,HO6.out,by have:=HLJ2.out;simp;omega,H88.out,HS5.out,HG5.out,HBB6.out⟩
          case measure=>simp [intOf];omega
      ·have hz2:m-jj=0:=by omega
       rw [hz2] at hS2;have hr2:=ssO_end hS2;subst hr2;have HON:=zz (show o=some ss by rw [HOO.out,hgl2];simp [glue]);subst hlj2;obtain ⟨P7,d7,hv7,hd7,hS7,_⟩:=ownsets_slice hOS;have hbf:=hb2;have HSS:=zz (fun x (h:Below wr.heap.size wr x)=>hS7.below h);have HBF:=zz (below_then HB.out hb2);have HOF:=zz (fun x (h:Below wr.heap.size wr x)=>ownsets_lower (ownsets_below hOS h) HB.out.size);have hl1:∀i,(ss.getD i []).length<=100000000000000:=by
        intro i;rcases Nat.lt_or_ge i ss.length with h|h
        ·have:=(h8 _ (ss_at h)).1;omega
        ·rw [List.getD_eq_getElem?_getD,List.getElem?_eq_none h];exact Nat.zero_le _
       have hl2:∀i,LFits (ss.getD i []):=by
        intro i;rcases Nat.lt_or_ge i ss.length with h|h
        ·exact sm_fits (h8 _ (ss_at h)).2
        ·rw [List.getD_eq_getElem?_getD,List.getElem?_eq_none h];intro j hj;exact absurd hj (Nat.not_lt_zero j)
       have HCK:=zz (ixcheck_ref P7 ss d7 wr.drew (HSS.out _ (ix_drawn wr.heap.size wr 1)) (by omega) (fun x _ i _ A c' hA=>lbchk_ref A _ c' x hA (hl1 i) (hl2 i)) (fun x _ i _ A c' B d' hA hB=>compare_ref A B _ _ c' d' x hA hB (hl1 i) (hl1 (i+1))));have HBR:=zz (fun (hz:ixChk ss=0) x (h:Sets x P7 ss)=>bytes_ref P7 ss d7 x h hz);have HCB:=HCB0;clear hOS hS2 hgl2 hb2 h8 hl1 hl2 hd7 hS7 hbf HCB0;subst hv7;obtain ⟨T2,hT2⟩:∃T2,txt b=T2:=⟨_,rfl⟩;have HQ2:=zz hT2;rw [hT2] at HCB;clear hT2
       by_cases hz:ixChk ss=0
       ·have HBS:=zz (HBR.out hz);have HZ:=zz hz;rw [hz] at HCK;clear HBR hz;obtain ⟨T1,hT1⟩:∃T1,txt (ixBytes ss)=T1:=⟨_,rfl⟩;have HQ1:=zz hT1;obtain ⟨bs,hbs⟩:∃bs,ixBytes ss=bs:=⟨_,rfl⟩;have HBSE:=zz hbs;rw [hbs] at HBS HQ1;clear hbs hT1
        by_cases hq:bs=b
        ·have j1:(T1.toList !=T2.toList)=false:=by rw [bne,eqT,decide_eq_true (show T1=T2 by rw [<-HQ1.out,<-HQ2.out,hq])];rfl
         have j2:(T1.toList==T2.toList)=true:=by rw [eqT,decide_eq_true (show T1=T2 by rw [<-HQ1.out,<-HQ2.out,hq])]
         have HQQ:=zz hq;clear hq
         go_upto_region 37 with fail
         refine wp_region_held_drew (S:=fun w'=>(convert 24 9 (.slice A nb c)).run Tryz.prog w'=.ok (.string T2) w') (by kernel_rfl) ?_ (fun hHeld=>?_)
         ·exact HCB.out _ HBF.out.drew
         refine tk 0 ⟨some 145,.move (.tmp 13),78, "ref.go:173",#[],none⟩ ?_
         try simp only [Act.put,lsA,lsB,lsC]
         refine wpAnyH_ready (rs:=[1]) (by kernel_rfl) (by simp) ?_;refine AllReadyH.cons (o:=⟨some 146,.call { callee:=.value (.func 37),args:=#[.tmp 145],argTypes:=#[78] },3, "ref.go:173",#[⟨0,.data⟩],none⟩) rfl (fun K hK=>?_) AllReadyH.nil
         go_simp
         go_at_call 37
         refine HCK.out.mono ?_;rintro e w5 ⟨rfl,hb5⟩;have HB5:=zz (below_then HBF.out.drew hb5);have HR5:=zz ((ix_drawn wr.heap.size wr 1).trans hb5);have kb5:(convert 24 9 (.slice A nb c)).run Tryz.prog w5=.ok (.string T2) w5:=HCB.out _ HB5.out;refine hK.out _ _ ?_ (fun hHeld=>?_)
         ·exact kb5
         clear hK K hb5
         try simp only [Act.put,lsA,lsB,lsC]
         refine tk 2 ⟨some 147,.binOp .neq 3 (.tmp 146) (.const (.int .i64 0)) 3,4, "ref.go:173",#[⟨1,.data⟩],none⟩ ?_
         try simp only [Act.put,lsA,lsB,lsC]
         refine tk 3 ⟨some 148,.move (.tmp 147),4, "ref.go:173",#[⟨2,.data⟩,⟨1,.chain⟩],none⟩ ?_
         try simp only [Act.put,lsA,lsB,lsC]
         refine tk 4 ⟨some 149,.move (.tmp 13),78, "ref.go:173",#[⟨3,.guard⟩],some (3,false)⟩ ?_
         try simp only [Act.put,lsA,lsB,lsC]
         refine tk 7 ⟨some 152,.move (.tmp 0),24, "ref.go:173",#[⟨3,.guard⟩],some (3,false)⟩ ?_
         try simp only [Act.put,lsA,lsB,lsC]
         refine tk 8 ⟨some 153,.convert 24 9 (.tmp 152),9, "ref.go:173",#[⟨7,.data⟩,⟨3,.guard⟩],some (3,false)⟩ ?_
         try simp only [Act.put,lsA,lsB,lsC]
         refine wpAnyH_ready (rs:=[5]) (by kernel_rfl) (by simp) ?_;refine AllReadyH.cons (o:=⟨some 150,.call { callee:=.value (.func 72),args:=#[.tmp 149],argTypes:=#[78] },24, "ref.go:173",#[⟨4,.data⟩,⟨3,.chain⟩,⟨3,.guard⟩],some (3,false)⟩) rfl (fun K hK=>?_) AllReadyH.nil
         go_simp
         go_at_call 72
         refine (HBS.out _ (HSS.out _ HR5.out)).mono ?_;rintro e w6 ⟨v6,rfl,ho6,hb6⟩;obtain ⟨P6,d6,hv6,hP6,_⟩:=own_slice' ho6;subst hv6;have HB6:=zz (below_then HB5.out hb6);have HR6:=zz (HR5.out.trans (hb6.mono HR5.out.size));have kb6:(convert 24 9 (.slice A nb c)).run Tryz.prog w6=.ok (.string T2) w6:=HCB.out _ HB6.out;have k6:(convert 24 9 (.slice P6 bs.length d6)).run Tryz.prog w6=.ok (.string T1) w6:=by rw [<-HQ1.out];exact conv_bys w6 P6 bs d6 hP6
         refine hK.out _ _ ?_ (fun hHeld=>?_)
         ·exact kb6
         clear hK K ho6 hb6 hP6;refine wpAnyH_more (S':=fun w'=>(convert 24 9 (.slice A nb c)).run Tryz.prog w'=.ok (.string T2) w'/\(convert 24 9 (.slice P6 bs.length d6)).run Tryz.prog w'=.ok (.string T1) w') (fun _ h=>h.1) _ _ _ _ ?_;have hHeld2:=(show (fun w':World=>(convert 24 9 (.slice A nb c)).run Tryz.prog w'=.ok (.string T2) w'/\(convert 24 9 (.slice P6 bs.length d6)).run Tryz.prog w'=.ok (.string T1) w') _ from ⟨kb6,k6⟩)
         try simp only [Act.put,lsA,lsB,lsC]
         refine tk 6 ⟨some 151,.convert 24 9 (.tmp 150),9, "ref.go:173",#[⟨5,.data⟩,⟨3,.guard⟩],some (3,false)⟩ ?_
         try simp only [Act.put,lsA,lsB,lsC]
         refine tk 9 ⟨some 154,.binOp .neq 9 (.tmp 151) (.tmp 153) 9,4, "ref.go:173",#[⟨6,.data⟩,⟨8,.data⟩,⟨3,.guard⟩],some (3,false)⟩ ?_
         try simp only [Act.put,lsA,lsB,lsC]
         refine tk 10 ⟨some 155,.pick (.tmp 148) (.const (.bool true)) (.tmp 154),4, "ref.go:173",#[⟨3,.data⟩,⟨9,.data⟩],none⟩ ?_
         try simp only [Act.put,lsA,lsB,lsC]
         refine wpAnyH_done (by kernel_rfl) ?_ _
         go_wp2_with fail
         go_ret2;exact ⟨HB6.out,.inr ⟨ss,_,HON.out,HZ.out,HBSE.out.trans HQQ.out,rfl,HOF.out _ HR6.out⟩⟩
        ·have hne:¬T1=T2:=fun e=>hq (txt_inj (by rw [HQ1.out,HQ2.out];exact e))
         have j1:(T1.toList !=T2.toList)=true:=by rw [bne,eqT,decide_eq_false hne];rfl
         have j2:(T1.toList==T2.toList)=false:=by rw [eqT,decide_eq_false hne]
         have HQQ:=zz hq;clear hq hne
         go_upto_region 37 with fail
         refine wp_region_held_drew (S:=fun w'=>(convert 24 9 (.slice A nb c)).run Tryz.prog w'=.ok (.string T2) w') (by kernel_rfl) ?_ (fun hHeld=>?_)
         ·exact HCB.out _ HBF.out.drew
         refine tk 0 ⟨some 145,.move (.tmp 13),78, "ref.go:173",#[],none⟩ ?_
         try simp only [Act.put,lsA,lsB,lsC]
         refine wpAnyH_ready (rs:=[1]) (by kernel_rfl) (by simp) ?_;refine AllReadyH.cons (o:=⟨some 146,.call { callee:=.value (.func 37),args:=#[.tmp 145],argTypes:=#[78] },3, "ref.go:173",#[⟨0,.data⟩],none⟩) rfl (fun K hK=>?_) AllReadyH.nil
         go_simp
         go_at_call 37
         refine HCK.out.mono ?_;rintro e w5 ⟨rfl,hb5⟩;have HB5:=zz (below_then HBF.out.drew hb5);have HR5:=zz ((ix_drawn wr.heap.size wr 1).trans hb5);have kb5:(convert 24 9 (.slice A nb c)).run Tryz.prog w5=.ok (.string T2) w5:=HCB.out _ HB5.out;refine hK.out _ _ ?_ (fun hHeld=>?_)
         ·exact kb5
         clear hK K hb5
         try simp only [Act.put,lsA,lsB,lsC]
         refine tk 2 ⟨some 147,.binOp .neq 3 (.tmp 146) (.const (.int .i64 0)) 3,4, "ref.go:173",#[⟨1,.data⟩],none⟩ ?_
         try simp only [Act.put,lsA,lsB,lsC]
         refine tk 3 ⟨some 148,.move (.tmp 147),4, "ref.go:173",#[⟨2,.data⟩,⟨1,.chain⟩],none⟩ ?_
         try simp only [Act.put,lsA,lsB,lsC]
         refine tk 4 ⟨some 149,.move (.tmp 13),78, "ref.go:173",#[⟨3,.guard⟩],some (3,false)⟩ ?_
         try simp only [Act.put,lsA,lsB,lsC]
         refine tk 7 ⟨some 152,.move (.tmp 0),24, "ref.go:173",#[⟨3,.guard⟩],some (3,false)⟩ ?_
         try simp only [Act.put,lsA,lsB,lsC]
         refine tk 8 ⟨some 153,.convert 24 9 (.tmp 152),9, "ref.go:173",#[⟨7,.data⟩,⟨3,.guard⟩],some (3,false)⟩ ?_
         try simp only [Act.put,lsA,lsB,lsC]
         refine wpAnyH_ready (rs:=[5]) (by kernel_rfl) (by simp) ?_;refine AllReadyH.cons (o:=⟨some 150,.call { callee:=.value (.func 72),args:=#[.tmp 149],argTypes:=#[78] },24, "ref.go:173",#[⟨4,.data⟩,⟨3,.chain⟩,⟨3,.guard⟩],some (3,false)⟩) rfl (fun K hK=>?_) AllReadyH.nil
         go_simp
         go_at_call 72
         refine (HBS.out _ (HSS.out _ HR5.out)).mono ?_;rintro e w6 ⟨v6,rfl,ho6,hb6⟩;obtain ⟨P6,d6,hv6,hP6,_⟩:=own_slice' ho6;subst hv6;have HB6:=zz (below_then HB5.out hb6);have HR6:=zz (HR5.out.trans (hb6.mono HR5.out.size));have kb6:(convert 24 9 (.slice A nb c)).run Tryz.prog w6=.ok (.string T2) w6:=HCB.out _ HB6.out;have k6:(convert 24 9 (.slice P6 bs.length d6)).run Tryz.prog w6=.ok (.string T1) w6:=by rw [<-HQ1.out];exact conv_bys w6 P6 bs d6 hP6
         refine hK.out _ _ ?_ (fun hHeld=>?_)
         ·exact kb6
         clear hK K ho6 hb6 hP6;refine wpAnyH_more (S':=fun w'=>(convert 24 9 (.slice A nb c)).run Tryz.prog w'=.ok (.string T2) w'/\(convert 24 9 (.slice P6 bs.length d6)).run Tryz.prog w'=.ok (.string T1) w') (fun _ h=>h.1) _ _ _ _ ?_;have hHeld2:=(show (fun w':World=>(convert 24 9 (.slice A nb c)).run Tryz.prog w'=.ok (.string T2) w'/\(convert 24 9 (.slice P6 bs.length d6)).run Tryz.prog w'=.ok (.string T1) w') _ from ⟨kb6,k6⟩)
         try simp only [Act.put,lsA,lsB,lsC]
         refine tk 6 ⟨some 151,.convert 24 9 (.tmp 150),9, "ref.go:173",#[⟨5,.data⟩,⟨3,.guard⟩],some (3,false)⟩ ?_
         try simp only [Act.put,lsA,lsB,lsC]
         refine tk 9 ⟨some 154,.binOp .neq 9 (.tmp 151) (.tmp 153) 9,4, "ref.go:173",#[⟨6,.data⟩,⟨8,.data⟩,⟨3,.guard⟩],some (3,false)⟩ ?_
         try simp only [Act.put,lsA,lsB,lsC]
         refine tk 10 ⟨some 155,.pick (.tmp 148) (.const (.bool true)) (.tmp 154),4, "ref.go:173",#[⟨3,.data⟩,⟨9,.data⟩],none⟩ ?_
         try simp only [Act.put,lsA,lsB,lsC]
         refine wpAnyH_done (by kernel_rfl) ?_ _
         go_wp2_with fail
         go_ret2;exact ⟨HB6.out,.inl ⟨fun ss' h=>(by rw [HON.out] at h;obtain rfl:=Option.some.inj h;rw [HBSE.out];exact fun h2=>HQQ.out h2.2),rfl⟩⟩
       ·have j1:(ixChk ss !=0)=true:=bne_iff_ne.2 hz;have HZ:=zz hz;clear hz HBR;generalize hE:ixChk ss=E at *;have HEE:=zz hE;clear hE
        go_upto_region 37 with fail
        refine wp_region_held_drew (S:=fun w'=>(convert 24 9 (.slice A nb c)).run Tryz.prog w'=.ok (.string T2) w') (by kernel_rfl) ?_ (fun hHeld=>?_)
        ·exact HCB.out _ HBF.out.drew
        refine tk 0 ⟨some 145,.move (.tmp 13),78, "ref.go:173",#[],none⟩ ?_
        try simp only [Act.put,lsA,lsB,lsC]
        refine wpAnyH_ready (rs:=[1]) (by kernel_rfl) (by simp) ?_;refine AllReadyH.cons (o:=⟨some 146,.call { callee:=.value (.func 37),args:=#[.tmp 145],argTypes:=#[78] },3, "ref.go:173",#[⟨0,.data⟩],none⟩) rfl (fun K hK=>?_) AllReadyH.nil
        go_simp
        go_at_call 37
        refine HCK.out.mono ?_;rintro e w5 ⟨rfl,hb5⟩;have HB5:=zz (below_then HBF.out.drew hb5);have HR5:=zz ((ix_drawn wr.heap.size wr 1).trans hb5);have kb5:(convert 24 9 (.slice A nb c)).run Tryz.prog w5=.ok (.string T2) w5:=HCB.out _ HB5.out;refine hK.out _ _ ?_ (fun hHeld=>?_)
        ·exact kb5
        clear hK K hb5
        try simp only [Act.put,lsA,lsB,lsC]
        refine tk 2 ⟨some 147,.binOp .neq 3 (.tmp 146) (.const (.int .i64 0)) 3,4, "ref.go:173",#[⟨1,.data⟩],none⟩ ?_
        try simp only [Act.put,lsA,lsB,lsC]
        refine tk 3 ⟨some 148,.move (.tmp 147),4, "ref.go:173",#[⟨2,.data⟩,⟨1,.chain⟩],none⟩ ?_
        try simp only [Act.put,lsA,lsB,lsC]
        refine tku 4 ⟨some 149,.move (.tmp 13),78, "ref.go:173",#[⟨3,.guard⟩],some (3,false)⟩ ?_
        try simp only [Act.put,lsA,lsB,lsC]
        refine tku 5 ⟨some 150,.call { callee:=.value (.func 72),args:=#[.tmp 149],argTypes:=#[78] },24, "ref.go:173",#[⟨4,.data⟩,⟨3,.chain⟩,⟨3,.guard⟩],some (3,false)⟩ ?_
        try simp only [Act.put,lsA,lsB,lsC]
        refine tku 6 ⟨some 151,.convert 24 9 (.tmp 150),9, "ref.go:173",#[⟨5,.data⟩,⟨3,.guard⟩],some (3,false)⟩ ?_
        try simp only [Act.put,lsA,lsB,lsC]
        refine tku 7 ⟨some 152,.move (.tmp 0),24, "ref.go:173",#[⟨3,.guard⟩],some (3,false)⟩ ?_
        try simp only [Act.put,lsA,lsB,lsC]
        refine tku 8 ⟨some 153,.convert 24 9 (.tmp 152),9, "ref.go:173",#[⟨7,.data⟩,⟨3,.guard⟩],some (3,false)⟩ ?_
        try simp only [Act.put,lsA,lsB,lsC]
        refine tku 9 ⟨some 154,.binOp .neq 9 (.tmp 151) (.tmp 153) 9,4, "ref.go:173",#[⟨6,.data⟩,⟨8,.data⟩,⟨3,.guard⟩],some (3,false)⟩ ?_
        try simp only [Act.put,lsA,lsB,lsC]
        refine tk 10 ⟨some 155,.pick (.tmp 148) (.const (.bool true)) (.tmp 154),4, "ref.go:173",#[⟨3,.data⟩,⟨9,.data⟩],none⟩ ?_
        try simp only [Act.put,lsA,lsB,lsC]
        refine wpAnyH_done (by kernel_rfl) ?_ _
        go_wp2_with fail
        go_ret2;exact ⟨HB5.out,.inl ⟨fun ss' h=>(by rw [HON.out] at h;obtain rfl:=Option.some.inj h;rw [HEE.out];exact fun h2=>HZ.out h2.1),rfl⟩⟩
end
end Go.Proofs.YtgdmcnoogacdaaaGreatDoor

namespace Go.Proofs.YtgdmcnoogacdaaaGreatDoor
open Go.RowKit Go.Maps
set_option linter.unusedVariables false
set_option maxRecDepth 100000
theorem rf_right(A:Option Addr)(ss:List (List Lbl))(c:Nat)(hr:ixChk ss=0)(hbc:(ixBytes ss).length<=c)(w:World)(hA:Bys w A (ixBytes ss)):
 Calls Tryz.prog 50 #[.slice A (ixBytes ss).length c] w fun e w'=>Below w.heap.size w w'/\∃v,e=.returned (.tuple #[v,.bool true])/\OwnSets w' w.heap.size v ss:=by
 have h:=ix_back (gu_right (ixBytes ss)) (xo_right (ixBytes ss)) hr rfl;have hl:=bytes_len hr;refine (refof_prog A (ixBytes ss) c hbc (by omega) (some ss) w hA h).mono ?_;rintro e w' ⟨hb,⟨h,_⟩|⟨ss',v,h0,h1,h2,h3,h4⟩⟩
 ·exact absurd ⟨hr,rfl⟩ (h ss rfl)
 ·obtain rfl:=Option.some.inj h0;exact ⟨hb,v,h3,h4⟩
theorem rf_wrong(A:Option Addr)(b:List UInt8)(c:Nat)(hbc:b.length<=c)(hbl:b.length<=140737488355328)(hno:¬∃ss,ixChk ss=0/\ixBytes ss=b)(w:World)(hA:Bys w A b):
 Calls Tryz.prog 50 #[.slice A b.length c] w fun e w'=>e=.returned (.tuple #[.slice none 0 0,.bool false])/\Below w.heap.size w w':=by
 obtain ⟨o,h⟩:=ixO_total (P:=fun a=>a<=b.length) (gu_all b) (xo_all b) (Nat.zero_le _);refine (refof_prog A b c hbc hbl o w hA h).mono ?_;rintro e w' ⟨hb,⟨_,h⟩|⟨ss',v,h0,h1,h2,h3,h4⟩⟩
 ·exact ⟨h,hb⟩
 ·exact absurd ⟨ss',h1,h2⟩ hno
end Go.Proofs.YtgdmcnoogacdaaaGreatDoor
