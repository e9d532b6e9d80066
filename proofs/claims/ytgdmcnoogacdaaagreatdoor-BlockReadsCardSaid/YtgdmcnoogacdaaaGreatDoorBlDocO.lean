/- The document's own Open of a block. -/
import Derived.Test.YtgdmcnoogacdaaaGreatDoorBlLotDo
import Derived.Test.YtgdmcnoogacdaaaGreatDoorBlLotChk
import Derived.Test.YtgdmcnoogacdaaaGreatDoorBlLotTl
import Derived.Test.YtgdmcnoogacdaaaGreatDoorBlLotIr
namespace Go.Proofs.YtgdmcnoogacdaaaGreatDoor
open Go.RowKit Go.Maps
open Ch
set_option linter.unusedVariables false
set_option linter.unusedSimpArgs false
set_option maxRecDepth 100000
theorem sersR_end{b:List UInt8}{a:Nat}{o:Option (List (List Smp))}(h:SersR b 0 a o):o=some []:=by cases h;rfl
theorem sersR_step{b:List UInt8}{k a:Nat}{o:Option (List (List Smp))}(h:SersR b (k+1) a o):∃o1,SmpR b a o1/\((o1=none/\o=none)\/∃l z o2,o1=some (l,z)/\SersR b k z o2/\o=o2.map fun ls=>l::ls):=by
 cases h with
 | no h=>exact ⟨none,h,.inl ⟨rfl,rfl⟩⟩
 | noMore h hm=>exact ⟨_,h,.inr ⟨_,_,none,rfl,hm,rfl⟩⟩
 | more h hm=>exact ⟨_,h,.inr ⟨_,_,some _,rfl,hm,rfl⟩⟩
theorem smpR_few{b:List UInt8}{a z:Nat}{l:List Smp}(ha:a<=b.length)(h:SmpR b a (some (l,z))):l.length<=7864320/\Fits l/\z<=b.length:=by
 obtain ⟨n,nx,e,hg,⟨_,h0⟩|⟨rfl,hn,hm⟩⟩:=smpR_open h
 ·cases h0
 ·obtain ⟨h1,h2,h3⟩:=pcsR_few b n nx l z (gu_place hg rfl).1 hm;exact ⟨by omega,h2,h3⟩
theorem lb_fits{l:List Lbl}(h:lbChk l=0):LFits l/\l.length<=8:=by
 obtain ⟨h8,h0⟩:=lbChk_ok.1 h;refine ⟨fun i hi=>?_,h8⟩;have h1:=lbErrAt_zero.1 (h0 i hi);have h2:=h1.1;unfold nameB at h2;simp only [Bool.and_eq_true,decide_eq_true_eq,strL_length] at h2;have h3:=h1.2.2.1;omega
theorem zip_step{ss:List (List Lbl)}{acc:List (List Smp)}{l:List Smp}{j:Nat}(hj:j<ss.length)(ha:acc.length=j):(ss.take (j+1)).zip (acc++[l])=(ss.take j).zip acc++[(ss.getD j [],l)]:=by
 rw [List.take_add_one,List.getElem?_eq_getElem hj,List.zip_append (by rw [List.length_take];omega),List.getD_eq_getElem?_getD,List.getElem?_eq_getElem hj];rfl
theorem zip_fit{ss:List (List Lbl)}{acc:List (List Smp)}(h0:ixChk ss=0)(h:∀l∈acc,l.length<=7864320/\Fits l):∀s∈ss.zip acc,SerFit s:=by
 intro s hs;obtain ⟨h1,h2⟩:=List.of_mem_zip (a:=s.1) (b:=s.2) hs;obtain ⟨k1,k2⟩:=lb_fits ((ixChk_right h0).2.2 _ h1);obtain ⟨k3,k4⟩:=h _ h2;exact ⟨k1,by omega,k4,by omega⟩
theorem ownsets_at{w:World}{base:Nat}{P:Option Addr}{n d:Nat}{ss:List (List Lbl)}(h:OwnSets w base (.slice P n d) ss){i:Nat}(hi:i<ss.length):
 ∃g o A c,P=some ⟨g,o,none⟩/\g<w.heap.size/\w.cell? ⟨g,o+i,none⟩=some (.slice A (ss.getD i []).length c)/\OwnL w base (.slice A (ss.getD i []).length c) (ss.getD i []):=by
 obtain ⟨ps,rfl,h2,h3⟩:=h;obtain ⟨P',c',e,_,h6,_⟩:=rows_slice h2;obtain ⟨rfl,-,rfl⟩:=Value.slice.inj e;rw [List.length_map] at hi;have hg:(ps.map fun p=>p.2.2).getD i []=ps[i].2.2:=by simp [List.getD_eq_getElem?_getD,hi]
 rcases h6 with h6|⟨b,o,rfl,hb,hc⟩
 ·rw [List.map_eq_nil_iff] at h6;subst h6;simp at hi
 ·refine ⟨b,o,ps[i].1,ps[i].2.1,rfl,hb,?_,by rw [hg];exact (h3 ps[i] (List.getElem_mem hi)).2⟩;rw [hg];exact hc i (slE ps[i]) (by rw [List.getElem?_map,List.getElem?_eq_getElem hi];rfl)
theorem rf_any(A:Option Addr)(b:List UInt8)(c:Nat)(hbc:b.length<=c)(hbl:b.length<=140737488355328)(w:World)(hA:Bys w A b):
 Calls Tryz.prog 50 #[.slice A b.length c] w fun e w'=>(∃P n d B,e=.returned (.tuple #[.slice P n d,.bool B]))/\Below w.heap.size w w':=by
 obtain ⟨o,h⟩:=ixO_total (P:=fun a=>a<=b.length) (gu_all b) (xo_all b) (Nat.zero_le _);refine (refof_prog A b c hbc hbl o w hA h).mono ?_;rintro e w' ⟨hb,⟨_,rfl⟩|⟨ss',v,h0,h1,h2,rfl,h4⟩⟩
 ·exact ⟨⟨none,0,0,false,rfl⟩,hb⟩
 ·obtain ⟨P,d,hv,_⟩:=ownsets_slice h4;exact ⟨⟨P,_,d,true,by rw [hv]⟩,hb⟩
def OwnSersB(w:World)(base lb:Nat)(v:Value)(S:List Ser):Prop :=
 ∃ps:List SPl,ps.map (·.1)=S/\w.ownsRow base 65 2 v ps.length (ps.flatMap spE)/\∀x∈ps,OwnL w lb (lsV x) x.1.1/\OwnS w lb (ssV x) x.1.2
theorem ownsersB_nil(w:World)(base lb:Nat):OwnSersB w base lb (.slice none 0 0) []:=⟨[],rfl,⟨rfl,.inl ⟨rfl,rfl⟩⟩,fun q hq=>by cases hq⟩
theorem ownsersB_below{w w':World}{base lb:Nat}{v:Value}{S:List Ser}(h:OwnSersB w base lb v S)(hb:Below w.heap.size w w'):OwnSersB w' base lb v S:=by
 obtain ⟨ps,h1,h2,h3⟩:=h;exact ⟨ps,h1,rows_below h2 hb,fun x hx=>⟨ownl_below (h3 x hx).1 hb,owns_below (h3 x hx).2 hb⟩⟩
theorem ownsersB_slice{w:World}{base lb:Nat}{v:Value}{S:List Ser}(h:OwnSersB w base lb v S):∃P c,v=.slice P S.length c/\S.length<=c/\Sers w P S:=by
 obtain ⟨ps,rfl,h2,h3⟩:=h;obtain ⟨P,c,h4,h5,h6,_⟩:=rows_slice h2;refine ⟨P,c,by rw [List.length_map];exact h4,by rw [List.length_map];exact h5,ps,rfl,h6,fun x hx=>?_⟩;obtain ⟨a1,a2⟩:=h3 x hx;obtain ⟨B,d,e1,e2,e3,_⟩:=ownl_slice a1;obtain ⟨B',d',e1',e2',e3',_⟩:=owns_slice a2;unfold lsV at e1;unfold ssV at e1';obtain ⟨rfl,-,rfl⟩:=Value.slice.inj e1;obtain ⟨rfl,-,rfl⟩:=Value.slice.inj e1';exact ⟨e3,e3',e2,e2'⟩
theorem app_serB{w0:World}{ops:Array Oper}{rest:List Oper}{o:Oper}{a:Act}{Q:Exit->Act->World->Prop}(hgd:o.guard=none)(s y:Operand)
 (ho:o.op=.call { callee:=.builtin .append,args:=#[s,y],argTypes:=#[22,22] })
 (base lb:Nat)(v:Value)(S:List Ser)(hs:a.eval s=v)(hF:OwnSersB w0 base lb v S)(q:SPl)(c:Nat)(hx1:OwnL w0 lb (lsV q) q.1.1)(hx2:OwnS w0 lb (ssV q) q.1.2)
 (hy:a.eval y=.slice (some ⟨w0.heap.size,0,none⟩) 1 c)(hn:S.length<=2000000000000)(hbase:base<=w0.heap.size)
 (h:∀v' w',OwnSersB w' base lb v' (S++[q.1])->Below base w0 w'->wpList Tryz.prog ops Q rest (a.put o.dst v') w'):
 wpList Tryz.prog ops Q (o::rest) a (w0.alloc (.cells (spE q).toArray 65)):=by
 obtain ⟨i0,hi,hz0,hz1,hz2⟩:=info_parts ser_info;have hA:=below_one w0 (.cells (spE q).toArray 65);obtain ⟨qs,rfl,h2,h3⟩:=ownsersB_below hF hA;have hx1':=ownl_below hx1 hA;have hx2':=owns_below hx2 hA;rw [List.length_map] at hn;refine wpList_app_at hgd s y 22 ho base 65 i0 _ 2 48 Tryz.underlying22 hi hz0 hz1 hz2 rfl (by omega) v qs.length (qs.flatMap spE) hs h2 (some ⟨w0.heap.size,0,none⟩) 1 c (spE q) hy (by rw [spE_len]) (At.row (Row.new w0 _ _)) ?_
  (by simp only [maxLen];omega) (by omega) (Nat.le_trans hbase hA.size) ?_
 ·intro u hu;simp only [spE,List.mem_cons,List.not_mem_nil,or_false] at hu;rcases hu with rfl|rfl<;>rfl
 intro v' w' k1 k2 k3;have hkeep:∀{e size n:Nat} {u:Value} {xs:List Value},World.ownsRow (w0.alloc (.cells (spE q).toArray 65)) lb e size u n xs->e≠65->w'.ownsRow lb e size u n xs:=fun {e size n u xs} hu he=>by
  refine rows_move hu fun k hk=>?_
  rcases hu.2 with ⟨e1,_⟩|⟨g,cap,cur,e1,_,hh,_⟩
  ·rw [e1] at hk;cases hk
  ·rw [e1] at hk;simp only [Value.ownBlock,Option.some.injEq] at hk;subst hk;exact k3.block g (Row.lt hh) fun e=>rows_ne (show Row _ g _ _ from hh) h2 he e.symm
 refine h v' w' ⟨qs++[q],by simp,by rw [List.length_append,List.flatMap_append,List.flatMap_cons,List.flatMap_nil,List.append_nil];exact k1,fun r hr=>?_⟩ ((hA.mono hbase).trans k2);rcases List.mem_append.1 hr with hr|hr
 ·exact ⟨hkeep (h3 r hr).1 (by decide),hkeep (h3 r hr).2 (by decide)⟩
 ·obtain rfl:=List.mem_singleton.1 hr;exact ⟨hkeep hx1' (by decide),hkeep hx2' (by decide)⟩
def DocTold(b:List UInt8)(w:World)(o:Option (List Ser))(e:Ending)(w':World):Prop :=
 Below w.heap.size w w'/\(((∀S,o=some S->¬(blChk S=0/\blL S=b))/\e=.returned (.tuple #[.slice none 0 0,.int .i64 5]))\/∃S P d,o=some S/\blChk S=0/\blL S=b/\e=.returned (.tuple #[.slice P S.length d,.int .i64 0])/\S.length<=d/\Sers w' P S/\∀s∈S,SerFit s)
theorem ret_doc{P:Option Addr}{a n d:Nat}(h:a=n):Ending.returned (.tuple #[.slice P n d,.int .i64 0])=.returned (.tuple #[.slice P a d,.int .i64 0]):=by rw [h]
theorem doc_none{b:List UInt8}{w w':World}{o:Option (List Ser)}(h:Below w.heap.size w w')(ho:o=none):DocTold b w o (.returned (.tuple #[.slice none 0 0,.int .i64 5])) w' :=
 ⟨h,.inl ⟨fun S e=>(by rw [ho] at e;cases e),rfl⟩⟩
theorem doc_bad{b:List UInt8}{w w':World}{o:Option (List Ser)}{S:List Ser}(h:Below w.heap.size w w')(ho:o=some S)(hn:¬(blChk S=0/\blL S=b)):DocTold b w o (.returned (.tuple #[.slice none 0 0,.int .i64 5])) w' :=
 ⟨h,.inl ⟨fun S' e=>(by rw [ho] at e;cases e;exact hn),rfl⟩⟩
section
variable (A:Option Addr) (b:List UInt8) (c:Nat) (hbc:b.length<=c) (hbl:b.length<=140737488355328)
include hbc hbl
set_option linter.unusedSectionVars false
theorem doc_short(w:World)(h4:b.length<4):Calls Tryz.prog 19 #[.slice A b.length c] w (DocTold b w none):=by
 have d4:decide ((b.length:Int)<4)=true:=decide_eq_true (by omega);have HT:=zz (fun (w:World)=>doc_none (b:=b) (o:=none) (Below.refl w.heap.size w) rfl);generalize b.length=L at *;go_enter Tryz.func19,Tryz.ntmps19
 go_wp2_with fail
 go_ret2;exact HT.out _
set_option maxHeartbeats 1000000 in
theorem doc_mag(w:World)(hA:Bys w A b)(h4:4<=b.length)(hm:b.take 4≠magL):Calls Tryz.prog 19 #[.slice A b.length c] w (DocTold b w none):=by
 have d4:decide ((b.length:Int)<4)=false:=decide_eq_false (by omega);have HT:=zz (fun (w:World)=>doc_none (b:=b) (o:=none) (Below.refl w.heap.size w) rfl);obtain ⟨g,o,rfl,_⟩:=hA.at_ (by omega);have k1:(convert 24 9 (.slice (some ⟨g,o,none⟩) 4 c)).run Tryz.prog w=.ok (.string (txt (b.take 4))) w:=by
  have:=conv_bys w (some ⟨g,o,none⟩) (b.take 4) c (hA.front 4);rwa [show (b.take 4).length=4 by rw [List.length_take];omega] at this
 have q1:=mag_ne hm;have q2:((txt (b.take 4)).toList !=[71,66,75,49])=true:=by rw [bne,q1];rfl
 clear hA hm;generalize txt (b.take 4)=T at *;generalize b.length=L at *;go_enter Tryz.func19,Tryz.ntmps19
 go_wp2_with fail
 go_ret2;exact HT.out _
set_option maxHeartbeats 16000000 in
theorem doc_sers(w:World)(hA:Bys w A b)(h4:4<=b.length)(hm:b.take 4=magL){n nx:Nat}{ss:List (List Lbl)}{o':Option (List (List Smp))}{o:Option (List Ser)}
 (hg:GU b 4 n nx 0)(hl:n<=b.length-nx)(h0:ixChk ss=0)(hx:ixBytes ss=(b.drop nx).take n)(hs:SersR b ss.length (nx+n) o')(ho:o=o'.map fun ls=>ss.zip ls):
 Calls Tryz.prog 19 #[.slice A b.length c] w (DocTold b w o):=by
 have d4:decide ((b.length:Int)<4)=false:=decide_eq_false (by omega);have HP:=zz (piece12_yes A b c 4 n nx w hA hbc hbl h4 hg hl);have HSP:=zz (fun x (hx:Below w.heap.size w x) a ha o (h:SmpR b a o)=>samples12_ref A b c a x (hA.below hx) hbc hbl ha h);have HCB0:=zz (fun x (h:Below w.heap.size w x)=>conv_bys x A b c (hA.below h));have hnx:=(gu_place hg rfl).1;have hxl:(ixBytes ss).length=n:=by rw [hx,List.length_take,List.length_drop];omega
 have HOF:=zz (fun P d x (hd:n<=d) (h:Bys x P ((b.drop nx).take n))=>rf_right P ss d h0 (by rw [hxl];exact hd) x (by rw [hx];exact h));rw [hxl] at HOF;have h256:=(ixChk_right h0).1;have HFEW:=zz (fun a z l (ha:a<=b.length) (h:SmpR b a (some (l,z)))=>smpR_few ha h);have HFIT:=zz (fun acc h=>zip_fit (ss:=ss) (acc:=acc) h0 h);obtain ⟨g,og,rfl,_⟩:=hA.at_ (by omega);generalize hAA:some (⟨g,og,none⟩:Addr)=A at *;have k1:(convert 24 9 (.slice A 4 c)).run Tryz.prog w=.ok (.string (txt (b.take 4))) w:=by
  have:=conv_bys w A (b.take 4) c (hA.front 4);rwa [show (b.take 4).length=4 by rw [List.length_take];omega] at this
 subst hAA;have q1:=mag_eq hm;have q2:((txt (b.take 4)).toList !=[71,66,75,49])=false:=by rw [bne,q1];rfl
 generalize txt (b.take 4)=T at *;obtain ⟨T2,hT2⟩:∃T2,txt b=T2:=⟨_,rfl⟩;have HQ2:=zz hT2;rw [hT2] at HCB0;obtain ⟨L,hL⟩:∃L,b.length=L:=⟨_,rfl⟩;have HL:=zz hL;have hend:nx+n<=L:=by omega
 rw [hL] at HP HSP HCB0 HFEW h4 hbc hbl d4 hnx hl ⊢;have HOO:=zz ho;have HSS0:=zz hs;clear hA hm hg hl hx hL hT2 h0 hxl ho hs;obtain ⟨m,hmm⟩:∃m,ss.length=m:=⟨_,rfl⟩;have HM:=zz hmm;rw [hmm] at HSS0 h256;clear hmm;go_enter Tryz.func19,Tryz.ntmps19
 go_wp2_with fail
 refine HP.out.mono ?_;rintro e' w2 ⟨⟨P2,d2,rfl,hP2,hd2⟩,rfl⟩;have HO2:=zz (HOF.out P2 d2 w2 hd2 hP2);clear hP2 hd2 HOF;generalize nx+n=z0 at *
 go_wp2_with fail
 refine HO2.out.mono ?_;rintro e' w3 ⟨hb3,v3,rfl,ho3⟩;obtain ⟨P3,d3,hv3,hd3,hS3,_⟩:=ownsets_slice ho3;subst hv3;have HO3:=zz ho3;have HB3:=zz hb3;rw [HM.out] at HO3 ⊢;clear hb3 ho3 hS3 hd3 HO2
 go_wp2_with fail
 go_loopw [5,9,10] (fun at_ out i wr=>∃(j aj:Nat) (acc:List (List Smp)) (oj:Option (List (List Smp))),j<=m/\i=.int .i64 (j:Int)/\at_=.int .i64 (aj:Int)/\aj<=L/\acc.length=j/\OwnSersB wr w3.heap.size w2.heap.size out ((ss.take j).zip acc)/\(∀l∈acc,l.length<=7864320/\Fits l)/\SersR b (m-j) aj oj/\(o'=oj.map fun ls=>acc++ls)/\Below w3.heap.size w3 wr) (fun _ _ i _=>m-(intOf i).toNat)
 case atStart=>exact ⟨0,z0,[],o',Nat.zero_le _,rfl,rfl,hend,rfl,ownsersB_nil _ _ _,(fun l hl=>by cases hl),HSS0.out,by cases o'<;>rfl,Below.refl _ _⟩
 case round =>
  obtain ⟨j,aj,acc,oj,hj,rfl,rfl,haj,hal,hO,hfit,hP,hoj,hbr⟩:=hrel;have HB:=zz hbr;have HBW:=zz (below_then HB3.out hbr)
  by_cases hlt:j<m
  ·have i1:decide ((j:Int)<(m:Int))=true:=decide_eq_true (by omega);have i2:(j:Int)<(m:Int):=by omega
   rw [show m-j=m-(j+1)+1 by omega] at hP;have HO:=zz hO;have HJ:=zz (show j+1<=m from hlt);have HFT:=zz hfit;have HAL:=zz hal;obtain ⟨o1,hs1,hrest⟩:=sersR_step hP;have HS1:=zz (HSP.out wr HBW.out aj haj o1 hs1);rcases hrest with ⟨rfl,h0⟩|⟨l,z,o2,rfl,hs2,h0⟩
   ·have HZ:=zz (show o=none by rw [HOO.out,hoj,h0];rfl);have HT:=zz (fun (x:World) (h:Below w2.heap.size w2 x)=>doc_none (b:=b) (o:=o) h HZ.out);clear hbr hoj hO hfit hP hs1 h0 hal
    go_wp2_with fail
    refine HS1.out.mono ?_;rintro e' w4 ⟨hb4,⟨_,rfl⟩|⟨_,_,_,h,_⟩⟩
    rotate_left
    ·cases h
    have HB4:=zz (below_then HBW.out hb4);clear hb4
    go_wp2_with fail
    go_ret2;exact HT.out _ HB4.out
   ·obtain ⟨hl1,hl2,hl3⟩:=HFEW.out aj z l haj hs1;obtain ⟨gs,os,A4,c4,rfl,hgs,hc4,hL4⟩:=ownsets_at HO3.out (i:=j) (by rw [HM.out];exact hlt);have HZ:=zz (show o'=o2.map fun ls=>(acc++[l])++ls by rw [hoj,h0,Option.map_map];congr 1;funext q;simp);have HS2:=zz hs2;have HZS:=zz (zip_step (ss:=ss) (acc:=acc) (l:=l) (j:=j) (by rw [HM.out];exact hlt) hal);have HF2:=zz (show ∀y∈acc++[l],y.length<=7864320/\Fits y from fun y hy=>by
     rcases List.mem_append.1 hy with h|h
     ·exact hfit y h
     ·rw [List.mem_singleton.1 h];exact ⟨hl1,hl2⟩)
    have HCE:=zz (fun x (h:Below w3.heap.size w3 x)=>(h.cell (p:=⟨gs,os+j,none⟩) hgs).trans hc4);have HLL:=zz (fun x (h:Below w3.heap.size w3 x)=>ownl_below hL4 h);have HLZ:=zz (show ((ss.take j).zip acc).length<=256 by rw [List.length_zip,hal];omega);clear hbr hoj hO hfit hP hs1 h0 hs2 hc4 hL4 hl1 hl2 HFEW;generalize ss.getD j []=ls at *;generalize (ss.take j).zip acc=SA at *
    go_wp2_with fail
    refine HS1.out.mono ?_;rintro e' w4 ⟨hb4,⟨h,_⟩|⟨l',z',v4,h,rfl,ho4⟩⟩
    ·cases h
    simp only [Option.some.injEq,Prod.mk.injEq] at h;obtain ⟨rfl,rfl⟩:=h;obtain ⟨P4,d4',hv4,hd4,hS4,_⟩:=owns_slice ho4;subst hv4;have HB4:=zz (below_then HB.out hb4);have HSO4:=zz (owns_lower ho4 (show w2.heap.size<=wr.heap.size from HBW.out.size));have HO4:=zz (ownsersB_below HO.out hb4);have c4':=HCE.out _ HB4.out;have HL5:=zz (HLL.out _ HB4.out);clear hb4 ho4 hd4 hS4;have HV4:=zz (show OwnL w4 w2.heap.size (lsV ((ls,l),⟨A4,c4,P4,d4'⟩)) ls/\OwnS w4 w2.heap.size (ssV ((ls,l),⟨A4,c4,P4,d4'⟩)) l from ⟨HL5.out,HSO4.out⟩)
    go_wp2_with (at_builtin;refine app_serB rfl (.tmp 55) (.tmp 62) rfl w3.heap.size w2.heap.size _ SA rfl HO4.out ((ls,l),⟨A4,c4,P4,d4'⟩) 1 HV4.out.1 HV4.out.2 rfl (by have:=HLZ.out;omega) HB4.out.size ?_;intro v5 w5 ho5 hb5;have HO5:=zz (show OwnSersB w5 w3.heap.size w2.heap.size v5 ((ss.take (j+1)).zip (acc++[l])) by rw [HZS.out];exact ho5);have HB5:=zz (HB4.out.trans hb5);clear ho5 hb5)
    go_roundw
    case rel=>exact ⟨j+1,z,acc++[l],o2,HJ.out,by go_num,rfl,hl3,by rw [List.length_append,HAL.out];rfl,HO5.out,HF2.out,HS2.out,HZ.out,HB5.out⟩
    case measure=>simp [intOf];omega
  ·have hjn:m-j=0:=by omega
   rw [hjn] at hP;have h0:=sersR_end hP;have hss:ss.take j=ss:=List.take_of_length_le (by rw [HM.out];omega);rw [hss] at hO;have HZ:=zz (show o=some (ss.zip acc) by rw [HOO.out,hoj,h0];simp);have i1:decide ((j:Int)<(m:Int))=false:=decide_eq_false (by omega);have i2:¬(j:Int)<(m:Int):=by omega
   have hfS:=HFIT.out acc hfit;have hSl:(ss.zip acc).length<=256:=by rw [List.length_zip];omega
   obtain ⟨S,hS⟩:∃S,ss.zip acc=S:=⟨_,rfl⟩;rw [hS] at HZ hfS hSl hO;obtain ⟨P7,d7,hv7,hd7,hS7⟩:=ownsersB_slice hO;have HDD:=zz hd7;have HSR:=zz (fun x (h:Below wr.heap.size wr x)=>hS7.below h);have HBF:=HBW;have HCB:=HCB0;have HFS:=zz hfS;have HCK:=zz (check12_ref P7 S d7 wr.drew (HSR.out _ (ix_drawn wr.heap.size wr 1)) hfS (by omega) hd7);have HBR:=zz (fun (hz:blChk S=0) x (h:Below wr.heap.size wr x)=>bytes12_ref P7 S d7 x (HSR.out x h) hz hd7);obtain ⟨nS,hnS⟩:∃nS,S.length=nS:=⟨_,rfl⟩;have HNS:=zz hnS;rw [hnS] at HCK HBR hv7;subst hv7;clear hbr hoj hO hfit hP h0 hjn hss hfS hSl hS hS7 hd7 hnS HFIT HSS0 HOO HSP HFEW
   by_cases hz:blChk S=0
   ·have HBS:=zz (HBR.out hz);have HZZ:=zz hz;rw [hz] at HCK;clear HBR hz;obtain ⟨T1,hT1⟩:∃T1,txt (blL S)=T1:=⟨_,rfl⟩;have HQ1:=zz hT1;obtain ⟨LS,hLS⟩:∃LS,(blL S).length=LS:=⟨_,rfl⟩;have HLS:=zz hLS;clear hLS hT1
    by_cases hq:blL S=b
    ·have j1:(T1.toList !=T2.toList)=false:=by rw [bne,eqT,decide_eq_true (show T1=T2 by rw [<-HQ1.out,<-HQ2.out,hq])];rfl
     have j2:(T1.toList==T2.toList)=true:=by rw [eqT,decide_eq_true (show T1=T2 by rw [<-HQ1.out,<-HQ2.out,hq])]
     have HQQ:=zz hq;clear hq
     go_upto_region 16 with fail
     refine wp_region_held_drew (S:=fun w'=>(convert 24 9 (.slice (some ⟨g,og,none⟩) L c)).run Tryz.prog w'=.ok (.string T2) w') (by kernel_rfl) ?_ (fun hHeld=>?_)
     ·exact HCB.out _ HBF.out.drew
     refine tk 0 ⟨some 65,.move (.tmp 9),22, "ref.go:136",#[],none⟩ ?_
     try simp only [Act.put,lsA,lsB,lsC]
     refine wpAnyH_ready (rs:=[1]) (by kernel_rfl) (by simp) ?_;refine AllReadyH.cons (o:=⟨some 66,.call { callee:=.value (.func 14),args:=#[.tmp 65],argTypes:=#[22] },3, "ref.go:136",#[⟨0,.data⟩],none⟩) rfl (fun K hK=>?_) AllReadyH.nil
     go_simp
     go_at_call 14
     refine HCK.out.mono ?_;rintro e w5 ⟨rfl,hb5⟩;have HB5:=zz (below_then HBF.out.drew hb5);have HR5:=zz ((ix_drawn wr.heap.size wr 1).trans hb5);have kb5:(convert 24 9 (.slice (some ⟨g,og,none⟩) L c)).run Tryz.prog w5=.ok (.string T2) w5:=HCB.out _ HB5.out;refine hK.out _ _ ?_ (fun hHeld=>?_)
     ·exact kb5
     clear hK K hb5
     try simp only [Act.put,lsA,lsB,lsC]
     refine tk 2 ⟨some 67,.binOp .neq 3 (.tmp 66) (.const (.int .i64 0)) 3,4, "ref.go:136",#[⟨1,.data⟩],none⟩ ?_
     try simp only [Act.put,lsA,lsB,lsC]
     refine tk 3 ⟨some 68,.move (.tmp 67),4, "ref.go:136",#[⟨2,.data⟩,⟨1,.chain⟩],none⟩ ?_
     try simp only [Act.put,lsA,lsB,lsC]
     refine tk 4 ⟨some 69,.move (.tmp 9),22, "ref.go:136",#[⟨3,.guard⟩],some (3,false)⟩ ?_
     try simp only [Act.put,lsA,lsB,lsC]
     refine tk 7 ⟨some 72,.move (.tmp 0),24, "ref.go:136",#[⟨3,.guard⟩],some (3,false)⟩ ?_
     try simp only [Act.put,lsA,lsB,lsC]
     refine tk 8 ⟨some 73,.convert 24 9 (.tmp 72),9, "ref.go:136",#[⟨7,.data⟩,⟨3,.guard⟩],some (3,false)⟩ ?_
     try simp only [Act.put,lsA,lsB,lsC]
     refine wpAnyH_ready (rs:=[5]) (by kernel_rfl) (by simp) ?_;refine AllReadyH.cons (o:=⟨some 70,.call { callee:=.value (.func 35),args:=#[.tmp 69],argTypes:=#[22] },24, "ref.go:136",#[⟨4,.data⟩,⟨3,.chain⟩,⟨3,.guard⟩],some (3,false)⟩) rfl (fun K hK=>?_) AllReadyH.nil
     go_simp
     go_at_call 35
     refine (HBS.out _ HR5.out).mono ?_;rintro e w6 ⟨v6,rfl,ho6,hb6⟩;obtain ⟨P6,d6,hv6,hP6,_⟩:=own_slice' ho6;subst hv6;have HB6:=zz (below_then HB5.out hb6);have HR6:=zz (HR5.out.trans (hb6.mono HR5.out.size));have kb6:(convert 24 9 (.slice (some ⟨g,og,none⟩) L c)).run Tryz.prog w6=.ok (.string T2) w6:=HCB.out _ HB6.out;have k6:(convert 24 9 (.slice P6 LS d6)).run Tryz.prog w6=.ok (.string T1) w6:=by rw [<-HQ1.out,<-HLS.out];exact conv_bys w6 P6 (blL S) d6 hP6
     rw [HLS.out];refine hK.out _ _ ?_ (fun hHeld=>?_)
     ·exact kb6
     clear hK K ho6 hb6 hP6;refine wpAnyH_more (S':=fun w'=>(convert 24 9 (.slice (some ⟨g,og,none⟩) L c)).run Tryz.prog w'=.ok (.string T2) w'/\(convert 24 9 (.slice P6 LS d6)).run Tryz.prog w'=.ok (.string T1) w') (fun _ h=>h.1) _ _ _ _ ?_;have hHeld2:=(show (fun w':World=>(convert 24 9 (.slice (some ⟨g,og,none⟩) L c)).run Tryz.prog w'=.ok (.string T2) w'/\(convert 24 9 (.slice P6 LS d6)).run Tryz.prog w'=.ok (.string T1) w') _ from ⟨kb6,k6⟩)
     try simp only [Act.put,lsA,lsB,lsC]
     refine tk 6 ⟨some 71,.convert 24 9 (.tmp 70),9, "ref.go:136",#[⟨5,.data⟩,⟨3,.guard⟩],some (3,false)⟩ ?_
     try simp only [Act.put,lsA,lsB,lsC]
     refine tk 9 ⟨some 74,.binOp .neq 9 (.tmp 71) (.tmp 73) 9,4, "ref.go:136",#[⟨6,.data⟩,⟨8,.data⟩,⟨3,.guard⟩],some (3,false)⟩ ?_
     try simp only [Act.put,lsA,lsB,lsC]
     refine tk 10 ⟨some 75,.pick (.tmp 68) (.const (.bool true)) (.tmp 74),4, "ref.go:136",#[⟨3,.data⟩,⟨9,.data⟩],none⟩ ?_
     try simp only [Act.put,lsA,lsB,lsC]
     refine wpAnyH_done (by kernel_rfl) ?_ _
     go_wp2_with fail
     go_ret2;exact ⟨HB6.out,.inr ⟨S,P7,d7,HZ.out,HZZ.out,HQQ.out,ret_doc HNS.out,HDD.out,HSR.out _ HR6.out,HFS.out⟩⟩
    ·have hne:¬T1=T2:=fun e=>hq (txt_inj (by rw [HQ1.out,HQ2.out];exact e))
     have j1:(T1.toList !=T2.toList)=true:=by rw [bne,eqT,decide_eq_false hne];rfl
     have j2:(T1.toList==T2.toList)=false:=by rw [eqT,decide_eq_false hne]
     have HQQ:=zz hq;clear hq hne
     go_upto_region 16 with fail
     refine wp_region_held_drew (S:=fun w'=>(convert 24 9 (.slice (some ⟨g,og,none⟩) L c)).run Tryz.prog w'=.ok (.string T2) w') (by kernel_rfl) ?_ (fun hHeld=>?_)
     ·exact HCB.out _ HBF.out.drew
     refine tk 0 ⟨some 65,.move (.tmp 9),22, "ref.go:136",#[],none⟩ ?_
     try simp only [Act.put,lsA,lsB,lsC]
     refine wpAnyH_ready (rs:=[1]) (by kernel_rfl) (by simp) ?_;refine AllReadyH.cons (o:=⟨some 66,.call { callee:=.value (.func 14),args:=#[.tmp 65],argTypes:=#[22] },3, "ref.go:136",#[⟨0,.data⟩],none⟩) rfl (fun K hK=>?_) AllReadyH.nil
     go_simp
     go_at_call 14
     refine HCK.out.mono ?_;rintro e w5 ⟨rfl,hb5⟩;have HB5:=zz (below_then HBF.out.drew hb5);have HR5:=zz ((ix_drawn wr.heap.size wr 1).trans hb5);have kb5:(convert 24 9 (.slice (some ⟨g,og,none⟩) L c)).run Tryz.prog w5=.ok (.string T2) w5:=HCB.out _ HB5.out;refine hK.out _ _ ?_ (fun hHeld=>?_)
     ·exact kb5
     clear hK K hb5
     try simp only [Act.put,lsA,lsB,lsC]
     refine tk 2 ⟨some 67,.binOp .neq 3 (.tmp 66) (.const (.int .i64 0)) 3,4, "ref.go:136",#[⟨1,.data⟩],none⟩ ?_
     try simp only [Act.put,lsA,lsB,lsC]
     refine tk 3 ⟨some 68,.move (.tmp 67),4, "ref.go:136",#[⟨2,.data⟩,⟨1,.chain⟩],none⟩ ?_
     try simp only [Act.put,lsA,lsB,lsC]
     refine tk 4 ⟨some 69,.move (.tmp 9),22, "ref.go:136",#[⟨3,.guard⟩],some (3,false)⟩ ?_
     try simp only [Act.put,lsA,lsB,lsC]
     refine tk 7 ⟨some 72,.move (.tmp 0),24, "ref.go:136",#[⟨3,.guard⟩],some (3,false)⟩ ?_
     try simp only [Act.put,lsA,lsB,lsC]
     refine tk 8 ⟨some 73,.convert 24 9 (.tmp 72),9, "ref.go:136",#[⟨7,.data⟩,⟨3,.guard⟩],some (3,false)⟩ ?_
     try simp only [Act.put,lsA,lsB,lsC]
     refine wpAnyH_ready (rs:=[5]) (by kernel_rfl) (by simp) ?_;refine AllReadyH.cons (o:=⟨some 70,.call { callee:=.value (.func 35),args:=#[.tmp 69],argTypes:=#[22] },24, "ref.go:136",#[⟨4,.data⟩,⟨3,.chain⟩,⟨3,.guard⟩],some (3,false)⟩) rfl (fun K hK=>?_) AllReadyH.nil
     go_simp
     go_at_call 35
     refine (HBS.out _ HR5.out).mono ?_;rintro e w6 ⟨v6,rfl,ho6,hb6⟩;obtain ⟨P6,d6,hv6,hP6,_⟩:=own_slice' ho6;subst hv6;have HB6:=zz (below_then HB5.out hb6);have HR6:=zz (HR5.out.trans (hb6.mono HR5.out.size));have kb6:(convert 24 9 (.slice (some ⟨g,og,none⟩) L c)).run Tryz.prog w6=.ok (.string T2) w6:=HCB.out _ HB6.out;have k6:(convert 24 9 (.slice P6 LS d6)).run Tryz.prog w6=.ok (.string T1) w6:=by rw [<-HQ1.out,<-HLS.out];exact conv_bys w6 P6 (blL S) d6 hP6
     rw [HLS.out];refine hK.out _ _ ?_ (fun hHeld=>?_)
     ·exact kb6
     clear hK K ho6 hb6 hP6;refine wpAnyH_more (S':=fun w'=>(convert 24 9 (.slice (some ⟨g,og,none⟩) L c)).run Tryz.prog w'=.ok (.string T2) w'/\(convert 24 9 (.slice P6 LS d6)).run Tryz.prog w'=.ok (.string T1) w') (fun _ h=>h.1) _ _ _ _ ?_;have hHeld2:=(show (fun w':World=>(convert 24 9 (.slice (some ⟨g,og,none⟩) L c)).run Tryz.prog w'=.ok (.string T2) w'/\(convert 24 9 (.slice P6 LS d6)).run Tryz.prog w'=.ok (.string T1) w') _ from ⟨kb6,k6⟩)
     try simp only [Act.put,lsA,lsB,lsC]
     refine tk 6 ⟨some 71,.convert 24 9 (.tmp 70),9, "ref.go:136",#[⟨5,.data⟩,⟨3,.guard⟩],some (3,false)⟩ ?_
     try simp only [Act.put,lsA,lsB,lsC]
     refine tk 9 ⟨some 74,.binOp .neq 9 (.tmp 71) (.tmp 73) 9,4, "ref.go:136",#[⟨6,.data⟩,⟨8,.data⟩,⟨3,.guard⟩],some (3,false)⟩ ?_
     try simp only [Act.put,lsA,lsB,lsC]
     refine tk 10 ⟨some 75,.pick (.tmp 68) (.const (.bool true)) (.tmp 74),4, "ref.go:136",#[⟨3,.data⟩,⟨9,.data⟩],none⟩ ?_
     try simp only [Act.put,lsA,lsB,lsC]
     refine wpAnyH_done (by kernel_rfl) ?_ _
     go_wp2_with fail
     go_ret2;exact doc_bad HB6.out HZ.out fun h=>HQQ.out h.2
   ·have j1:(blChk S !=0)=true:=bne_iff_ne.2 hz;have HZZ:=zz hz;clear hz HBR;generalize hE:blChk S=E at *;have HEE:=zz hE;clear hE
    go_upto_region 16 with fail
    refine wp_region_held_drew (S:=fun w'=>(convert 24 9 (.slice (some ⟨g,og,none⟩) L c)).run Tryz.prog w'=.ok (.string T2) w') (by kernel_rfl) ?_ (fun hHeld=>?_)
    ·exact HCB.out _ HBF.out.drew
    refine tk 0 ⟨some 65,.move (.tmp 9),22, "ref.go:136",#[],none⟩ ?_
    try simp only [Act.put,lsA,lsB,lsC]
    refine wpAnyH_ready (rs:=[1]) (by kernel_rfl) (by simp) ?_;refine AllReadyH.cons (o:=⟨some 66,.call { callee:=.value (.func 14),args:=#[.tmp 65],argTypes:=#[22] },3, "ref.go:136",#[⟨0,.data⟩],none⟩) rfl (fun K hK=>?_) AllReadyH.nil
    go_simp
    go_at_call 14
    refine HCK.out.mono ?_;rintro e w5 ⟨rfl,hb5⟩;have HB5:=zz (below_then HBF.out.drew hb5);have HR5:=zz ((ix_drawn wr.heap.size wr 1).trans hb5);have kb5:(convert 24 9 (.slice (some ⟨g,og,none⟩) L c)).run Tryz.prog w5=.ok (.string T2) w5:=HCB.out _ HB5.out;refine hK.out _ _ ?_ (fun hHeld=>?_)
    ·exact kb5
    clear hK K hb5
    try simp only [Act.put,lsA,lsB,lsC]
    refine tk 2 ⟨some 67,.binOp .neq 3 (.tmp 66) (.const (.int .i64 0)) 3,4, "ref.go:136",#[⟨1,.data⟩],none⟩ ?_
    try simp only [Act.put,lsA,lsB,lsC]
    refine tk 3 ⟨some 68,.move (.tmp 67),4, "ref.go:136",#[⟨2,.data⟩,⟨1,.chain⟩],none⟩ ?_
    try simp only [Act.put,lsA,lsB,lsC]
    refine tku 4 ⟨some 69,.move (.tmp 9),22, "ref.go:136",#[⟨3,.guard⟩],some (3,false)⟩ ?_
    try simp only [Act.put,lsA,lsB,lsC]
    refine tku 5 ⟨some 70,.call { callee:=.value (.func 35),args:=#[.tmp 69],argTypes:=#[22] },24, "ref.go:136",#[⟨4,.data⟩,⟨3,.chain⟩,⟨3,.guard⟩],some (3,false)⟩ ?_
    try simp only [Act.put,lsA,lsB,lsC]
    refine tku 6 ⟨some 71,.convert 24 9 (.tmp 70),9, "ref.go:136",#[⟨5,.data⟩,⟨3,.guard⟩],some (3,false)⟩ ?_
    try simp only [Act.put,lsA,lsB,lsC]
    refine tku 7 ⟨some 72,.move (.tmp 0),24, "ref.go:136",#[⟨3,.guard⟩],some (3,false)⟩ ?_
    try simp only [Act.put,lsA,lsB,lsC]
    refine tku 8 ⟨some 73,.convert 24 9 (.tmp 72),9, "ref.go:136",#[⟨7,.data⟩,⟨3,.guard⟩],some (3,false)⟩ ?_
    try simp only [Act.put,lsA,lsB,lsC]
    refine tku 9 ⟨some 74,.binOp .neq 9 (.tmp 71) (.tmp 73) 9,4, "ref.go:136",#[⟨6,.data⟩,⟨8,.data⟩,⟨3,.guard⟩],some (3,false)⟩ ?_
    try simp only [Act.put,lsA,lsB,lsC]
    refine tk 10 ⟨some 75,.pick (.tmp 68) (.const (.bool true)) (.tmp 74),4, "ref.go:136",#[⟨3,.data⟩,⟨9,.data⟩],none⟩ ?_
    try simp only [Act.put,lsA,lsB,lsC]
    refine wpAnyH_done (by kernel_rfl) ?_ _
    go_wp2_with fail
    go_ret2;exact doc_bad HB5.out HZ.out fun h=>HZZ.out (HEE.out.symm.trans h.1)
set_option maxHeartbeats 2000000 in
theorem doc_piece(w:World)(hA:Bys w A b)(h4:4<=b.length)(hm:b.take 4=magL){n nx e:Nat}(hg:GU b 4 n nx e)(he:e≠0\/b.length-nx<n):Calls Tryz.prog 19 #[.slice A b.length c] w (DocTold b w none):=by
 have d4:decide ((b.length:Int)<4)=false:=decide_eq_false (by omega);have HP:=zz (piece12_no A b c 4 n nx e w hA hbl h4 hg he);have HBL:=zz hbl;have HBB:=zz hbc;obtain ⟨g,og,rfl,_⟩:=hA.at_ (by omega);generalize hAA:some (⟨g,og,none⟩:Addr)=A at *;have k1:(convert 24 9 (.slice A 4 c)).run Tryz.prog w=.ok (.string (txt (b.take 4))) w:=by
  have:=conv_bys w A (b.take 4) c (hA.front 4);rwa [show (b.take 4).length=4 by rw [List.length_take];omega] at this
 subst hAA;have q1:=mag_eq hm;have q2:((txt (b.take 4)).toList !=[71,66,75,49])=false:=by rw [bne,q1];rfl
 generalize txt (b.take 4)=T at *;have HT:=zz (fun (x:World) (h:Below w.heap.size w x)=>doc_none (b:=b) (o:=none) h rfl);have HOF:=zz (fun x=>rf_any none [] 0 (by simp) (by simp) x (Bys.empty _ _));clear hg he hm hA;generalize b.length=L at *;go_enter Tryz.func19,Tryz.ntmps19
 go_wp2_with fail
 refine HP.out.mono ?_;rintro e' w2 ⟨rfl,rfl⟩
 go_wp2_with fail
 refine (show Calls Tryz.prog 50 #[.slice none 0 0] w2 _ from HOF.out w2).mono ?_;rintro e' w3 ⟨⟨P3,n3,d3,B3,rfl⟩,hb3⟩;have HB3:=zz hb3;clear hb3
 go_wp2_with fail
 go_ret2;exact HT.out _ HB3.out
set_option maxHeartbeats 2000000 in
theorem doc_idx(w:World)(hA:Bys w A b)(h4:4<=b.length)(hm:b.take 4=magL){n nx:Nat}(hg:GU b 4 n nx 0)(hl:n<=b.length-nx)(hx:¬∃ss,ixChk ss=0/\ixBytes ss=(b.drop nx).take n):Calls Tryz.prog 19 #[.slice A b.length c] w (DocTold b w none):=by
 have d4:decide ((b.length:Int)<4)=false:=decide_eq_false (by omega);have HP:=zz (piece12_yes A b c 4 n nx w hA hbc hbl h4 hg hl);have HBL:=zz hbl;have HBB:=zz hbc;obtain ⟨g,og,rfl,_⟩:=hA.at_ (by omega);generalize hAA:some (⟨g,og,none⟩:Addr)=A at *;have k1:(convert 24 9 (.slice A 4 c)).run Tryz.prog w=.ok (.string (txt (b.take 4))) w:=by
  have:=conv_bys w A (b.take 4) c (hA.front 4);rwa [show (b.take 4).length=4 by rw [List.length_take];omega] at this
 subst hAA;have q1:=mag_eq hm;have q2:((txt (b.take 4)).toList !=[71,66,75,49])=false:=by rw [bne,q1];rfl
 generalize txt (b.take 4)=T at *;have HT:=zz (fun (x:World) (h:Below w.heap.size w x)=>doc_none (b:=b) (o:=none) h rfl);have hnx:=(gu_place hg rfl).1;have hxl:((b.drop nx).take n).length=n:=by rw [List.length_take,List.length_drop];omega
 have HOF:=zz (fun P d x (hd:n<=d) (h:Bys x P ((b.drop nx).take n))=>rf_wrong P ((b.drop nx).take n) d (by rw [hxl];exact hd) (by rw [hxl];have:=HBL.out;omega) hx x h);rw [hxl] at HOF;clear hg hl hx hm hnx hxl hA;generalize b.length=L at *;go_enter Tryz.func19,Tryz.ntmps19
 go_wp2_with fail
 refine HP.out.mono ?_;rintro e' w2 ⟨⟨P2,d2,rfl,hP2,hd2⟩,rfl⟩;have HO2:=zz (HOF.out P2 d2 w2 hd2 hP2);clear hP2 hd2
 go_wp2_with fail
 refine HO2.out.mono ?_;rintro e' w3 ⟨rfl,hb3⟩;have HB3:=zz hb3;clear hb3
 go_wp2_with fail
 go_ret2;exact HT.out _ HB3.out
theorem doc_prog(w:World)(hA:Bys w A b){o:Option (List Ser)}(h:OpenR b o):Calls Tryz.prog 19 #[.slice A b.length c] w (DocTold b w o):=by
 cases h with
 | short h=>exact doc_short A b c hbc hbl w h
 | noMag h4 h=>exact doc_mag A b c hbc hbl w hA h4 h
 | noPiece h4 hm hg he=>exact doc_piece A b c hbc hbl w hA h4 hm hg he
 | noIdx h4 hm hg hl hx=>exact doc_idx A b c hbc hbl w hA h4 hm hg hl hx
 | noSers h4 hm hg hl h0 hx hs=>exact doc_sers A b c hbc hbl w hA h4 hm hg hl h0 hx hs rfl
 | yes h4 hm hg hl h0 hx hs=>exact doc_sers A b c hbc hbl w hA h4 hm hg hl h0 hx hs rfl
end
end Go.Proofs.YtgdmcnoogacdaaaGreatDoor
