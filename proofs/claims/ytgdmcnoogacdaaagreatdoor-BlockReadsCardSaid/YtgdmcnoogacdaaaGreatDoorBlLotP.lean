/- In one text, written by lotify.py: IxClone, IxMap. -/
import Derived.Test.YtgdmcnoogacdaaaGreatDoorBlLotL
import Derived.Test.YtgdmcnoogacdaaaGreatDoorBlLotN
import Derived.WideKeyEntry
namespace Go.Proofs.YtgdmcnoogacdaaaGreatDoor
open Go.RowKit Go.Maps
set_option linter.unusedVariables false
theorem ix_eqnil{P:Program}(w:World)(t e:TypeId)(a:Option Addr)(l c:Nat)(h:P.underlying t=some (.slice e)):(binOp .eql t (.slice a l c) (.slice none 0 0)).run P w=.ok (.bool a.isNone) w:=by
 simp only [binOp];simp [run_equal_slice_nil w t e a l c h]
set_option maxRecDepth 100000 in
theorem ixclone_prog(A:Option Addr)(l:List Lbl)(c:Nat)(w:World)(hA:Lbls w A l)(hl:l.length*32<=140737488355328):
 Calls Tryz.prog 91 #[.slice A l.length c] w fun e w'=>∃v,e=.returned v/\OwnL w' w.heap.size v l/\Below w.heap.size w w':=by
 have q:=ix_eqnil (P:=Tryz.prog) w 56 118 A l.length c Tryz.underlying56
 cases A with
 | none =>
   have h0:l=[]:=by
    rcases hA with h|⟨b,o,e,_⟩
    ·have:=flat_len lblE 2 lblE_len l;rw [h] at this;simp at this;exact List.eq_nil_of_length_eq_zero (by omega)
    ·cases e
   subst h0;clear hA q;have q:=ix_eqnil (P:=Tryz.prog) w 56 118 none 0 c Tryz.underlying56;go_enter Tryz.func91,Tryz.ntmps91
   go_wp2_with fail
   go_ret;exact ⟨_,rfl,ownl_nil _ _,Below.refl _ _⟩
 | some ad =>
   have HO:=zz (ownl_empty (Row.new w 118 #[]) (Nat.le_refl _));have HA1:=zz (hA.alloc (.cells #[] 118));have hW1:=below_one w (.cells #[] 118);clear hA;go_enter Tryz.func91,Tryz.ntmps91
   go_wp2_with (at_builtin;refine app_lbls rfl (.tmp 5) (.tmp 6) rfl w.heap.size _ [] rfl HO.out (some ad) l c rfl HA1.out (by simpa using hl) hW1.size ?_;intro v3 w3 hF3 hb3 _;rw [List.nil_append] at hF3;have HF3:=zz hF3;obtain ⟨P3,c3,hv3,_,_,_⟩:=ownl_slice hF3;clear hF3;subst hv3)
   go_ret;exact ⟨_,rfl,HF3.out,hW1.trans hb3⟩
set_option maxHeartbeats 1000000 in
theorem ixcheck_prog(V:Option Addr)(ss:List (List Lbl))(c:Nat)(w:World)(hV:Sets w V ss)(hl:ss.length<=100000000000000)(hll:∀i,(ss.getD i []).length<=100000000000000):
 Calls Tryz.prog 98 #[.slice V ss.length c] w fun e w'=>e=.returned (.int .i64 (ixChk ss))/\Below w.heap.size w w':=by
 by_cases hb:256<ss.length
 ·have i1:decide ((256:Int)<(ss.length:Int))=true:=decide_eq_true (by omega);have HE:=zz (show ixChk ss=3 from if_pos hb);clear hb;go_enter Tryz.func98,Tryz.ntmps98
  go_wp2_with fail
  go_ret;exact ⟨ret_ix HE.out.symm,Below.refl _ _⟩
 ·have i1:decide ((256:Int)<(ss.length:Int))=false:=decide_eq_false (by omega);rw [restC_zero hb];obtain ⟨E,hE⟩:∃E,restC ss 0=E:=⟨_,rfl⟩;rw [hE];have HE:=zz hE;have HV:=zz (fun (x:World) (h:Below w.heap.size w x)=>hV.below h);have HLL:=zz hll;have H256:=zz hb;clear hV hE hb hll;go_enter Tryz.func98,Tryz.ntmps98
  go_wp2_with fail
  go_loopw [11] (fun i wr=>∃j:Nat,j<=ss.length/\i=.int .i64 (j:Int)/\restC ss j=E/\Below w.heap.size w wr) (fun i _=>ss.length-(intOf i).toNat)
  case atStart=>exact ⟨0,Nat.zero_le _,rfl,HE.out,Below.refl _ _⟩
  case round =>
   obtain ⟨j,hj,rfl,hr,hb⟩:=hrel;have HB:=zz hb;have HR:=zz hr
   by_cases hlt:j<ss.length
   ·obtain ⟨b1,o1,A1,c1,rfl,hb1,g0,hL1,hlc1⟩:=(HV.out _ hb).at_ hlt;have i2:(j:Int)<(ss.length:Int):=by omega
    have HCK:=zz (lbchk_prog A1 (ss.getD j []) c1 wr hL1 (HLL.out j));have HBAD:=zz (fun h=>restC_bad (ss:=ss) (j:=j) hlt h);have HNX:=zz (fun h h2=>restC_next (ss:=ss) (j:=j) hlt h h2);clear hr hb hL1
    by_cases hz:lbChk (ss.getD j [])=0
    ·rw [hz] at HCK
     by_cases h0:j=0
     ·subst h0;have HR2:=zz (show restC ss 1=E from by rw [<-HNX.out hz (.inl rfl)];exact HR.out);clear hz HBAD HNX;generalize (ss.getD 0 []).length=nl at *;rw [Nat.add_zero] at g0
      go_wp2_with (first|(go_at_call 139;refine HCK.out.mono ?_;rintro e w5 ⟨rfl,hb5⟩;have HB5:=zz (below_then HB.out hb5);clear hb5))
      go_roundw
      case rel=>exact ⟨1,hlt,by go_num,HR2.out,HB5.out⟩
      case measure=>simp [intOf];omega
     ·obtain ⟨m,hm⟩:∃m,m+1=j:=⟨j-1,by omega⟩;have HORD:=zz (fun h=>restC_order (ss:=ss) (m:=m) (by omega) (by rw [hm];exact hz) h);have HNX2:=zz (fun h=>HNX.out hz (.inr h));rw [hm] at HORD;rw [show j-1=m from by omega] at HNX2;have o9:IntKind.i64.wrap ((j:Int)-1)=(m:Int):=by rw [show (j:Int)-1=(m:Int) from by omega];exact IntWalk.i64_in _ (by have:=H256.out;omega)
      have i5:decide ((0:Int)<(j:Int))=true:=decide_eq_true (by omega);have i6:(m:Int)<(ss.length:Int):=by omega
      have i7:0<j:=by omega
      have i8:(0:Int)<(j:Int):=by omega
      have hmlt:m<ss.length:=by omega
      have HCM:=zz (fun (x:World) (A2 A3:Option Addr) (c2 c3:Nat) (h2:Lbls x A2 (ss.getD m [])) (h3:Lbls x A3 (ss.getD j []))=>compare_prog A2 A3 (ss.getD m []) (ss.getD j []) c2 c3 x h2 h3 (HLL.out m) (HLL.out j));have HVV:=zz (fun (x:World) (h:Below w.heap.size w x)=>(show ∃A2 c2 A3 c3,x.cell? ⟨b1,o1+m,none⟩=some (.slice A2 (ss.getD m []).length c2)/\Lbls x A2 (ss.getD m [])/\x.cell? ⟨b1,o1+j,none⟩=some (.slice A3 (ss.getD j []).length c3)/\Lbls x A3 (ss.getD j []) from by
       obtain ⟨b2,o2,A2,c2,e2,hb2,g2,hL2,_⟩:=(HV.out _ h).at_ hmlt;have e2':=Option.some.inj e2;simp only [Addr.mk.injEq,and_true] at e2';obtain ⟨rfl,rfl⟩:=e2';obtain ⟨b3,o3,A3,c3,e3,hb3,g3,hL3,_⟩:=(HV.out _ h).at_ hlt;have e3':=Option.some.inj e3;simp only [Addr.mk.injEq,and_true] at e3';obtain ⟨rfl,rfl⟩:=e3';exact ⟨A2,c2,A3,c3,g2,hL2,g3,hL3⟩))
      have HG0:=zz (show (fun (x:World)=>x.cell? ⟨b1,o1+j,none⟩) wr=some (.slice A1 (ss.getD j []).length c1) from g0);clear hz HBAD HNX hm h0;generalize hnl:(ss.getD j []).length=nl at *;generalize hnm:(ss.getD m []).length=nm at *;clear hnl hnm
      go_upto_region 9 with (first|(go_at_call 139;refine HCK.out.mono ?_;rintro e w5 ⟨rfl,hb5⟩;have HB5:=zz (below_then HB.out hb5);have HB9:=zz hb5;clear hb5))
      obtain ⟨A2,c2,A3,c3,g2,hL2,g3,hL3⟩:=HVV.out _ HB5.out;have e3:(Value.slice A3 nl c3)=.slice A1 nl c1:=Option.some.inj (g3.symm.trans ((HB9.out.cell (p:=⟨b1,o1+j,none⟩) hb1).trans HG0.out));obtain ⟨rfl,_,rfl⟩:=Value.slice.inj e3;have HCM2:=zz (HCM.out _ A2 A3 c2 c3 hL2 hL3);clear hL2 hL3 g0 e3 g3
      by_cases hc:0<=cmpLs (ss.getD m []) (ss.getD j [])
      ·have HR2:=zz (show (13:Int)=E from by rw [<-HORD.out hc];exact HR.out);have j1:decide ((0:Int)<=cmpLs (ss.getD m []) (ss.getD j []))=true:=decide_eq_true hc;generalize cmpLs (ss.getD m []) (ss.getD j [])=E2 at *;clear hc
       go_wp2_with (first|(go_at_call 140;refine HCM2.out.mono ?_;rintro e w6 ⟨rfl,hb6⟩;have HB6:=zz (HB5.out.trans (hb6.mono HB5.out.size));clear hb6))
       go_ret;exact ⟨ret_ix HR2.out,HB6.out⟩
      ·have HR2:=zz (show restC ss (j+1)=E from by rw [<-HNX2.out (by omega)];exact HR.out);have j1:decide ((0:Int)<=cmpLs (ss.getD m []) (ss.getD j []))=false:=decide_eq_false hc;generalize cmpLs (ss.getD m []) (ss.getD j [])=E2 at *;clear hc
       go_wp2_with (first|(go_at_call 140;refine HCM2.out.mono ?_;rintro e w6 ⟨rfl,hb6⟩;have HB6:=zz (HB5.out.trans (hb6.mono HB5.out.size));clear hb6))
       go_roundw
       case rel=>exact ⟨j+1,hlt,by go_num,HR2.out,HB6.out⟩
       case measure=>simp [intOf];omega
    ·have HR2:=zz (show lbChk (ss.getD j [])=E from by rw [<-HBAD.out hz];exact HR.out);have j1:(lbChk (ss.getD j []) !=0)=true:=bne_iff_ne.2 hz;have j2:(lbChk (ss.getD j [])==0)=false:=beq_eq_false_iff_ne.2 hz;generalize lbChk (ss.getD j [])=E2 at *;generalize (ss.getD j []).length=nl at *;clear hz HBAD HNX
     go_wp2_with (first|(go_at_call 139;refine HCK.out.mono ?_;rintro e w5 ⟨rfl,hb5⟩;have HB5:=zz (below_then HB.out hb5);clear hb5))
     go_ret;exact ⟨ret_ix HR2.out,HB5.out⟩
   ·obtain rfl:j=ss.length:=by omega
    have HR2:=zz (show (0:Int)=E from by rw [<-restC_end ss];exact HR.out);clear hr hb
    go_wp2_with fail
    go_ret;exact ⟨ret_ix HR2.out,HB.out⟩
end Go.Proofs.YtgdmcnoogacdaaaGreatDoor

namespace Go.Proofs.YtgdmcnoogacdaaaGreatDoor
open Go.RowKit Go.Maps Go.WideMaps
open Go.WideElems (Fit rd rg rd_key rd_val rg_of rd_mk entry_then_store)
open Go.ChangeMaps (setBlock putKey notKey heap_setBlock_same heap_setBlock_other)
open Go.MapKept (Stamped)
set_option linter.unusedVariables false
set_option maxRecDepth 100000
def pairV(p:Lbl):Value:=.agg #[.string p.1,.string p.2]
def Sz(p:Lbl):Prop:=p.1.size<=maxLen/\p.2.size<=maxLen
theorem pair_arr:ArrKey Tryz.prog 169 9 2:=⟨Tryz.underlying169,by kernel_rfl,by kernel_rfl,by kernel_rfl⟩
theorem pair_law:KeyLaw Tryz.prog 169:=pair_arr.law
theorem pair_keyed:Keyed Tryz.prog 169:=Keyed.of_law pair_law
theorem types_some:∃m,Tryz.prog.types.size=m+1:=⟨Tryz.prog.types.size-1,by kernel_rfl⟩
def klOf(p:Lbl):Lit:=.string (keyBytes [.string p.1.data.toList,.string p.2.data.toList])
theorem pair_key{p:Lbl}(h:Sz p):keyOf Tryz.prog 169 (pairV p)=some (klOf p):=by
 have hkt:=pair_arr.keyType types_some;obtain ⟨m,hm⟩:=types_some;unfold keyOf pairV klOf;simp only [pair_arr.hu];rw [if_pos (by simp [hkt,Value.formed,pair_arr.hu,pair_arr.size]),hm];unfold Program.keyLits;simp only [pair_arr.hu,Value.cells];rw [if_pos (by rw [pair_arr.size];rfl),show List.range 2=[0,1] from rfl,List.mapM_cons,List.mapM_cons,List.mapM_nil];have h1:=h.1;have h2:=h.2;simp [pair_arr.one,Program.keyLits,Tryz.underlying9,h1,h2]
theorem pair_inv{v:Value}{kl:Lit}(h:keyOf Tryz.prog 169 v=some kl):∃p,v=pairV p/\Sz p:=by
 unfold keyOf at h;simp only [pair_arr.hu] at h
 split at h
 ·rename_i hc;simp only [Bool.and_eq_true] at hc;obtain ⟨ls,hk,_⟩:=Option.map_eq_some_iff.1 h;obtain ⟨m,hm⟩:=types_some;rw [hm] at hk;unfold Program.keyLits at hk;simp only [pair_arr.hu] at hk
  split at hk
  ·rename_i hl;have hf:=hc.2
   cases v
   case agg cs =>
    rw [pair_arr.size] at hl;simp only [Value.cells] at hl hk;obtain ⟨a,b,hab⟩:∃a b,cs.toList=[a,b]:=by
     match h:cs.toList,hl with
     | [a,b],_=>exact ⟨a,b,rfl⟩
    rw [hab,show List.range 2=[0,1] from rfl,List.mapM_cons,List.mapM_cons,List.mapM_nil] at hk;simp only [bind,Option.bind_eq_some_iff,pure,Option.some.injEq,pair_arr.one,Option.map_eq_some_iff,Nat.zero_mul,List.drop_zero,Nat.one_mul,List.take_succ_cons,List.take_zero,List.drop_succ_cons] at hk;obtain ⟨_,⟨y0,h0,_,⟨y1,h1,_,_⟩,_⟩,_⟩:=hk;obtain ⟨s0,e0,z0⟩:=keyLits_string' Tryz.underlying9 h0;obtain ⟨s1,e1,z1⟩:=keyLits_string' Tryz.underlying9 h1;injection e0 with e0 _;injection e1 with e1 _;subst e0 e1;have hs:∀{d:Nat} {s:ByteArray} {y:List Lit},Tryz.prog.keyLits d 9 [.string s]=some y->s.size<=maxLen:=by
     intro d s y hy
     cases d with
     | zero=>simp [Program.keyLits] at hy
     | succ d =>
       unfold Program.keyLits at hy;simp only [Tryz.underlying9] at hy
       split at hy
       ·assumption
       ·cases hy
    refine ⟨(s0,s1),?_,hs h0,hs h1⟩;have e:cs=#[.string s0,.string s1]:=Array.ext' (by rw [hab]);rw [e];rfl
   all_goals (simp [Value.formed,pair_arr.hu] at hf)
  ·cases hk
 ·cases h
theorem pairV_inj{p q:Lbl}(h:pairV p=pairV q):p=q:=by
 unfold pairV at h;simp only [Value.agg.injEq,Array.mk.injEq,List.cons.injEq,Value.string.injEq,and_true] at h;exact Prod.ext h.1 h.2
theorem post_zero(w:World):(zeroValue 59).run Tryz.prog w=.ok (.slice none 0 0) w:=by kernel_rfl
def noR:Value->Option (DataW Unit × List MemPlace):=fun _=>some (.nil,[])
def PostAt(w:World)(base b:Nat)(evs:List Ev):Prop :=
 ∃es clock,w.heap[b]?=some (.map es clock)/\Fit Tryz.prog 169 noR es clock/\es.size<=evs.length /\
  (∀x∈es.toList,∃p,x.key=pairV p/\Sz p/\idsE evs p≠[]/\OwnZ w base x.val (idsE evs p)) /\
  (∀p,idsE evs p≠[]->∃x∈es.toList,x.key=pairV p) /\
  ∀x∈es.toList,∀y∈es.toList,x.key≠y.key->∀k,x.val.ownBlock=some k->y.val.ownBlock≠some k
theorem ownz_block{w:World}{base:Nat}{v:Value}{l:List Int}(h:OwnZ w base v l){k:Nat}(hk:v.ownBlock=some k):∃cs,Row w k 3 cs:=by
 rcases h.2 with ⟨rfl,_⟩|⟨g,cap,cur,rfl,_,hh,_⟩
 ·cases hk
 ·simp only [Value.ownBlock,Option.some.injEq] at hk;subst hk;exact ⟨cur,hh⟩
theorem post_made(w:World)(base:Nat):PostAt (w.alloc (.map #[] 0)) base w.heap.size [] :=
 ⟨#[],0,heap_alloc_new w _,⟨by simp,MapKept.stamped_empty 0,by simp⟩,by simp,by simp,fun p h=>absurd rfl h,by simp⟩
theorem PostAt.lt{w:World}{base b:Nat}{evs:List Ev}(h:PostAt w base b evs):b<w.heap.size:=by
 obtain ⟨es,clock,hb,_⟩:=h;exact (Array.getElem?_eq_some_iff.1 hb).1
theorem PostAt.obj{w:World}{base b:Nat}{evs:List Ev}(h:PostAt w base b evs):∃es clock,w.heap[b]?=some (.map es clock):=by
 obtain ⟨es,clock,hb,_⟩:=h;exact ⟨es,clock,hb⟩
theorem PostAt.move{w w':World}{base b:Nat}{evs:List Ev}(h:PostAt w base b evs)(hb:w'.heap[b]?=w.heap[b]?)(hr:∀k cs,Row w k 3 cs->w'.heap[k]?=w.heap[k]?):PostAt w' base b evs:=by
 obtain ⟨es,clock,h1,h2,h3,h4,h5,h6⟩:=h;refine ⟨es,clock,hb.trans h1,h2,h3,fun x hx=>?_,h5,h6⟩;obtain ⟨p,k1,k2,k3,k4⟩:=h4 x hx;exact ⟨p,k1,k2,k3,rows_move k4 fun k hk=>by obtain ⟨cs,hc⟩:=ownz_block k4 hk;exact hr k cs hc⟩
theorem PostAt.below{w w':World}{base b:Nat}{evs:List Ev}(h:PostAt w base b evs)(hb:Below w.heap.size w w'):PostAt w' base b evs :=
 h.move (hb.block b h.lt) fun k cs hk=>hb.block k hk.lt
theorem PostAt.alloc{w:World}{base b:Nat}{evs:List Ev}(h:PostAt w base b evs)(o:Obj):PostAt (w.alloc o) base b evs:=h.below (below_one w o)
theorem PostAt.grown{w w':World}{base b:Nat}{evs:List Ev}{row:Option Nat}(h:PostAt w base b evs)(hg:w.grownBy w' row)(hne:∀k,row=some k->∃cs t,Row w k t cs/\t≠3):PostAt w' base b evs:=by
 refine h.move (hg.block b h.lt fun e=>?_) fun k cs hk=>hg.block k hk.lt fun e=>?_
 ·obtain ⟨cs,t,hr,_⟩:=hne b e.symm;obtain ⟨es,clock,hb⟩:=h.obj;unfold Row at hr;rw [hr] at hb
  cases hb
 ·obtain ⟨cs',t,hr,ht⟩:=hne k e.symm;unfold Row at hr hk;rw [hr] at hk;injection hk with hk;injection hk with _ h2 _;exact ht h2
theorem PostAt.setCell{w:World}{base b:Nat}{evs:List Ev}{g i:Nat}{t:TypeId}{cs:Array Value}(h:PostAt w base b evs)(hg:Row w g t cs)(ht:t≠3)(u:Value):PostAt (w.setCell ⟨g,i,none⟩ u) base b evs:=by
 refine h.move (Below.heap_setCell w _ _ _ fun e=>?_) fun k cs' hk=>Below.heap_setCell w _ _ _ fun e=>?_
 ·obtain ⟨es,clock,hb⟩:=h.obj;have e2:b=g:=e;unfold Row at hg;rw [e2,hg] at hb
  cases hb
 ·have e2:k=g:=e;subst e2;unfold Row at hg hk;rw [hg] at hk;injection hk with hk;injection hk with _ h2 _;exact ht h2
theorem post_entry{w:World}{base b:Nat}{evs:List Ev}(h:PostAt w base b evs){p:Lbl}(hp:Sz p)(hn:evs.length<maxLen)(i:Nat):
 ∃v0 st w1,(Instr.mapEntry 114 (.map (some b)) (pairV p)).run Tryz.prog w=.ok (.tuple #[v0,goInt st]) w1/\OwnZ w base v0 (idsE evs p)/\w.grownBy w1 (some b)/\OwnZ w1 base v0 (idsE evs p) /\
  ∀w2 v',w1.grownBy w2 v0.ownBlock->OwnZ w2 base v' (idsE evs p++[(i:Int)])->(v'.ownBlock=v0.ownBlock\/∃g,v'.ownBlock=some g/\w1.heap.size<=g) ->
   ∃w3,(Instr.entryStore 114 (.map (some b)) (goInt st) v').run Tryz.prog w2=.ok () w3/\w2.grownBy w3 (some b)/\PostAt w3 base b (evs++[(p,i)])/\∃es ck,w2.heap[b]?=some (.map es ck):=by
 have hlt:=h.lt;obtain ⟨es,clock,h1,h2,h3,h4,h5,h6⟩:=h;obtain ⟨v0,st,es1,clock1,hrun,hwho,hst⟩:=entry_then_store pair_law Tryz.underlying114 post_zero h1 h2 (pair_key hp);have hz0:OwnZ w base v0 (idsE evs p):=by
  rcases hwho with ⟨e0,he0,hk0,rfl⟩|⟨hno,rfl⟩
  ·obtain ⟨q,k1,k2,k3,k4⟩:=h4 e0 he0;rw [hk0] at k1;rw [pairV_inj k1];exact k4
  ·have he:idsE evs p=[]:=Classical.byContradiction fun hne=>by
    obtain ⟨x,hx,hxk⟩:=h5 p hne;exact hno x hx hxk
   rw [he];exact ownz_nil _ _
 have hg1:w.grownBy (setBlock w b (.map es1 clock1)) (some b):=⟨rfl,rfl,rfl,by simp [setBlock],fun k _ hk=>heap_setBlock_other h1 _ (fun e=>hk (by rw [e]))⟩;have noB:∀{u:World} {v:Value} {l:List Int} {o:Array MapEntry × Nat},OwnZ u base v l->u.heap[b]?=some (.map o.1 o.2)->v.ownBlock≠some b:=by
  intro u v l o hv hu e;obtain ⟨cs,hr⟩:=ownz_block hv e;unfold Row at hr;rw [hu] at hr
  cases hr
 refine ⟨v0,st,setBlock w b (.map es1 clock1),hrun,hz0,hg1,rows_move hz0 fun k hk=>hg1.block k (World.ownsRow.lt hz0 k hk).2 (fun e=>noB (o:=(es,clock)) hz0 h1 (hk.trans e)),fun w2 v' hg2 hv' hloc=>?_⟩;have hb1:(setBlock w b (.map es1 clock1)).heap[b]?=some (.map es1 clock1):=heap_setBlock_same h1 _;have hv0b:v0.ownBlock≠some b:=noB (o:=(es,clock)) hz0 h1;have hb2:w2.heap[b]?=some (.map es1 clock1):=(hg2.block b (Array.getElem?_eq_some_iff.1 hb1).1 (fun e=>hv0b e.symm)).trans hb1;obtain ⟨es',clock',hs1,hs2⟩:=hst w2 v' hb2;obtain ⟨es'',clock'',hu1,hu2,hu3,_,_,hu6⟩:=fit_store (R:=noR) (R':=noR) (val:=v') (yv:=(.nil,[])) pair_keyed Tryz.underlying114 h1 h2 (by omega) (fun _ _ _ _ hz=>hz) (pair_key hp) rfl;have hsame:es''=es'/\clock''=clock':=by
  rw [hs2] at hu1;injection hu1 with _ hu1;have e1:(setBlock w b (.map es' clock')).heap[b]?=some (.map es' clock'):=heap_setBlock_same h1 _;rw [hu1,heap_setBlock_same h1] at e1;injection e1 with e1;injection e1 with e1 e2;exact ⟨e1,e2⟩
 obtain ⟨rfl,rfl⟩:=hsame;have hg3:w2.grownBy (setBlock w2 b (.map es'' clock'')) (some b):=⟨rfl,rfl,rfl,by simp [setBlock],fun k _ hk=>heap_setBlock_other hb2 _ (fun e=>hk (by rw [e]))⟩;refine ⟨_,hs1,hg3,⟨es'',clock'',heap_setBlock_same hb2 _,hu2,?_,fun x hx=>?_,fun q hq=>?_,fun x hx y hy hne=>?_⟩,es1,clock1,hb2⟩
 ·have e1:es''.size=((es''.toList.map (rg Tryz.prog 169 noR)).foldr DataW.insert []).length:=by rw [length_sorted];simp
  rw [e1,hu3];unfold putKey;rw [length_insert];have e2:=List.length_filter_le (notKey (klOf p)) ((es.toList.map (rg Tryz.prog 169 noR)).foldr DataW.insert []);rw [length_sorted] at e2;simp at e2;rw [List.length_append,List.length_singleton];omega
 ·rcases hu6 x hx with ⟨hx0,hne⟩|⟨hk,hv⟩
  ·obtain ⟨q,k1,k2,k3,k4⟩:=h4 x hx0;have hpq:p≠q:=fun e=>hne (by rw [k1,e])
   refine ⟨q,k1,k2,?_,?_⟩
   ·rw [idsE_snoc,if_neg hpq,List.append_nil];exact k3
   ·rw [idsE_snoc,if_neg hpq,List.append_nil];have off:∀k,x.val.ownBlock=some k->v0.ownBlock≠some k:=by
     rcases hwho with ⟨e0,he0,hk0,rfl⟩|⟨_,rfl⟩
     ·exact h6 x hx0 e0 he0 (by rw [hk0];exact hne)
     ·intro k _ e;cases e
    have o1:OwnZ (setBlock w b (.map es1 clock1)) base x.val (idsE evs q):=rows_move k4 fun k hk=>hg1.block k (World.ownsRow.lt k4 k hk).2 (fun e=>noB (o:=(es,clock)) k4 h1 (hk.trans e))
    have o2:OwnZ w2 base x.val (idsE evs q):=rows_move o1 fun k hk=>hg2.block k (World.ownsRow.lt o1 k hk).2 (fun e=>off k hk e.symm)
    exact rows_move o2 fun k hk=>hg3.block k (World.ownsRow.lt o2 k hk).2 (fun e=>noB (o:=(es1,clock1)) o2 hb2 (hk.trans e))
  ·refine ⟨p,hk,hp,?_,?_⟩
   ·rw [idsE_snoc,if_pos rfl];simp
   ·rw [idsE_snoc,if_pos rfl,hv];exact rows_move hv' fun k hk=>hg3.block k (World.ownsRow.lt hv' k hk).2 (fun e=>noB (o:=(es1,clock1)) hv' hb2 (hk.trans e))
 ·have memkey:∀kl,(∃x∈es''.toList,(rg Tryz.prog 169 noR x).1=kl)↔kl∈((es''.toList.map (rg Tryz.prog 169 noR)).foldr DataW.insert []).map (·.1):=by
   intro kl;rw [List.mem_map];constructor
   ·rintro ⟨x,hx,rfl⟩;exact ⟨_,mem_sorted.2 (List.mem_map.2 ⟨x,hx,rfl⟩),rfl⟩
   ·rintro ⟨z,hz,rfl⟩;obtain ⟨x,hx,rfl⟩:=List.mem_map.1 (mem_sorted.1 hz);exact ⟨x,hx,rfl⟩
  have keyIs:∀{x:MapEntry} {kl:Lit},x∈es''.toList->(rg Tryz.prog 169 noR x).1=kl->keyOf Tryz.prog 169 x.key=some kl:=by
   intro x kl hx e;obtain ⟨y,hy⟩:=hu2.reads x hx;rw [rg_of hy] at e;rw [<-e];exact rd_key hy
  rw [hu3] at memkey;unfold putKey at memkey
  by_cases hpq:q=p
  ·subst hpq;obtain ⟨x,hx,hxk⟩:=(memkey (klOf q)).2 (List.mem_map.2 ⟨(klOf q,.nil),ChangeMaps.mem_insert_iff.2 (.inl rfl),rfl⟩);exact ⟨x,hx,pair_law.inj (keyIs hx hxk) (pair_key hp)⟩
  ·have hq0:idsE evs q≠[]:=by
    rw [idsE_snoc,if_neg (fun e=>hpq e.symm),List.append_nil] at hq;exact hq
   obtain ⟨x0,hx0,hxk0⟩:=h5 q hq0;obtain ⟨q',k1,k2,_,_⟩:=h4 x0 hx0;have hqq:q=q':=pairV_inj (hxk0.symm.trans k1);subst hqq;obtain ⟨y,hy⟩:=h2.reads x0 hx0;have hyk:y.1=klOf q:=by
    have:=rd_key hy;rw [hxk0,pair_key k2] at this;exact (Option.some.inj this).symm
   have hin:(rg Tryz.prog 169 noR x0)∈(es.toList.map (rg Tryz.prog 169 noR)).foldr DataW.insert []:=mem_sorted.2 (List.mem_map.2 ⟨x0,hx0,rfl⟩);obtain ⟨x,hx,hxk⟩:=(memkey (klOf q)).2 (List.mem_map.2 ⟨rg Tryz.prog 169 noR x0,ChangeMaps.mem_insert_iff.2 (.inr (List.mem_filter.2 ⟨hin,by
    refine (notKey_iff (pair_keyed.key (pair_key hp))).2 ?_;rw [rg_of hy,hyk];intro e;exact hpq (pairV_inj (pair_law.inj (pair_key k2) (by rw [e];exact pair_key hp)))⟩)),by rw [rg_of hy,hyk]⟩)
   exact ⟨x,hx,pair_law.inj (keyIs hx hxk) (pair_key k2)⟩
 ·rcases hu6 x hx with ⟨hx0,hnx⟩|⟨hkx,hvx⟩
  ·rcases hu6 y hy with ⟨hy0,hny⟩|⟨hky,hvy⟩
   ·exact h6 x hx0 y hy0 hne
   ·intro k hk e;rw [hvy] at e;obtain ⟨q,_,_,_,k4⟩:=h4 x hx0;rcases hloc with hl|⟨g,hl,hge⟩
    ·rw [hl] at e;rcases hwho with ⟨e0,he0,hk0,rfl⟩|⟨_,rfl⟩
     ·exact h6 x hx0 e0 he0 (by rw [hk0];exact hnx) k hk e
     ·cases e
    ·rw [hl] at e;injection e with e;have:=(World.ownsRow.lt k4 k hk).2;have:=hg1.size;omega
  ·rcases hu6 y hy with ⟨hy0,hny⟩|⟨hky,hvy⟩
   ·intro k hk e;rw [hvx] at hk;obtain ⟨q,_,_,_,k4⟩:=h4 y hy0;rcases hloc with hl|⟨g,hl,hge⟩
    ·rw [hl] at hk;rcases hwho with ⟨e0,he0,hk0,rfl⟩|⟨_,rfl⟩
     ·exact h6 y hy0 e0 he0 (by rw [hk0];exact hny) k e hk
     ·cases hk
    ·rw [hl] at hk;injection hk with hk;have:=(World.ownsRow.lt k4 k e).2;have:=hg1.size;omega
   ·exact absurd (hkx.trans hky.symm) hne
theorem post_owns{w:World}{base b:Nat}{evs:List Ev}(h:PostAt w base b evs):∃D:DataW Unit,w.ownsMap Tryz.prog 169 noR b evs.length D/\(∀kl,has D kl=true↔∃p,Sz p/\idsE evs p≠[]/\kl=klOf p):=by
 obtain ⟨es,clock,h1,h2,h3,h4,h5,h6⟩:=h;refine ⟨_,⟨es,clock,h1,h2,h3,rfl⟩,fun kl=>?_⟩;rw [has_eq,List.any_eq_true];constructor
 ·rintro ⟨z,hz,hzk⟩;obtain ⟨x,hx,rfl⟩:=List.mem_map.1 (mem_sorted.1 hz);obtain ⟨y,hy⟩:=h2.reads x hx;obtain ⟨p,k1,k2,k3,_⟩:=h4 x hx;refine ⟨p,k2,k3,?_⟩;have e:=WideAt.sameKey_eq hzk;have e2:keyOf Tryz.prog 169 x.key=some y.1:=rd_key (R:=noR) hy;rw [k1,pair_key k2] at e2;rw [<-e,rg_of hy];exact (Option.some.inj e2).symm
 ·rintro ⟨p,hp,hne,rfl⟩;obtain ⟨x,hx,hxk⟩:=h5 p hne;obtain ⟨y,hy⟩:=h2.reads x hx;have e2:keyOf Tryz.prog 169 x.key=some y.1:=rd_key (R:=noR) hy;rw [hxk,pair_key hp] at e2;refine ⟨rg Tryz.prog 169 noR x,mem_sorted.2 (List.mem_map.2 ⟨x,hx,rfl⟩),?_⟩;rw [rg_of hy,<-Option.some.inj e2];exact WideAt.sameKey_self (pair_keyed.key (pair_key hp))
theorem klOf_inj{p q:Lbl}(hp:Sz p)(hq:Sz q)(h:klOf p=klOf q):p=q:=pairV_inj (pair_law.inj (pair_key hp) (by rw [h];exact pair_key hq))
end Go.Proofs.YtgdmcnoogacdaaaGreatDoor
