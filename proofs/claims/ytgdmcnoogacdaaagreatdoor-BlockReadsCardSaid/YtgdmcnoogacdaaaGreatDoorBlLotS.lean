/- In one text, written by lotify.py: IxSort, IxSet, IxGathT, IxQry. -/
import Derived.Test.YtgdmcnoogacdaaaGreatDoorShelfG
import Derived.Sort.OwnSortedInts
import Derived.Test.YtgdmcnoogacdaaaGreatDoorBlLotQ
import Derived.Sort.KeysCollected
namespace Go.Proofs.YtgdmcnoogacdaaaGreatDoor
open Go.RowKit Go.Maps Go.Sort Go.Shelf Go.Proofs
set_option linter.unusedVariables false
def bytesOf(s:ByteArray):List UInt8:=s.data.toList
def mkText(l:List UInt8):ByteArray:=⟨l.toArray⟩
theorem mk_bytes(s:ByteArray):mkText (bytesOf s)=s:=by unfold mkText bytesOf;rw [Array.toArray_toList]
theorem bytes_mk(l:List UInt8):bytesOf (mkText l)=l:=rfl
theorem map_enc(ts:List ByteArray):(ts.map bytesOf).map encStr=ts.map Value.string:=by
 rw [List.map_map]
 apply List.map_congr_left
 intro s _
 show Value.string (mkText (bytesOf s))=_
 rw [mk_bytes]
theorem enc_map(ls:List (List UInt8)):(ls.map mkText).map Value.string=ls.map encStr:=by
 rw [List.map_map];rfl
theorem less_lt:∀(a b:List UInt8),Op.bytesLess a b=true->a<b:=by
 intro a
 induction a with
 | nil =>
   intro b h
   cases b with
   | nil=>simp [Op.bytesLess] at h
   | cons y s=>exact List.nil_lt_cons _ _
 | cons x r ih =>
   intro b h
   cases b with
   | nil=>simp [Op.bytesLess] at h
   | cons y s =>
     simp only [Op.bytesLess,Bool.or_eq_true,Bool.and_eq_true,decide_eq_true_eq,beq_iff_eq] at h;rw [List.cons_lt_cons_iff];rcases h with h|⟨rfl,h⟩
     ·exact .inl h
     ·exact .inr ⟨rfl,ih s h⟩
theorem le_cmpB{a b:List UInt8}(h:a<=b):cmpB (mkText a) (mkText b)<=0:=by
 refine Classical.byContradiction fun hn=>?_
 have h1:=cmpB_cmp.swap (mkText a) (mkText b);have h2:Op.bytesLess (mkText b).toList (mkText a).toList=true:=by
  rw [less_cmp];refine decide_eq_true ?_;rcases cmpB_cmp.rng (mkText b) (mkText a) with h|h|h<;>omega
 rw [ByteArray.toList_eq,ByteArray.toList_eq] at h2;exact absurd (less_lt _ _ h2) h
theorem sort_s{w:World}{base:Nat}{v:Value}{ts:List ByteArray}(h:OwnTx w base v ts)(hl:ts.length<=1000000):
 Calls Tryz.prog 142 #[v] w fun e w'=>e=.returned (.tuple #[])/\∃us,OwnTx w' base v us/\us.Perm ts/\us.Pairwise (fun a b=>cmpB a b<=0)/\w.grownBy w' v.ownBlock:=by
 have h0:=h;rcases h.2 with ⟨rfl,hn⟩|⟨g,cap,cur,rfl,hbase,hb,h1,h2,h3,h4⟩
 ·have hts:=List.length_eq_zero_iff.1 hn;subst hts;refine (AnyM.slices_Sort_string_none Tryz.ix_sort_s none 0 w).mono ?_;rintro e w' ⟨rfl,rfl⟩;exact ⟨rfl,[],h0,List.Perm.refl _,List.Pairwise.nil,World.grownBy.refl _ _⟩
 ·have e:(ts.map bytesOf).length=ts.length:=by simp
  have hH:Holds encStr w g 0 (ts.map bytesOf).toArray:=holds_of_block hb (by rw [e,map_enc];simpa using h4);have hc:=AnyM.slices_Sort_string Tryz.ix_sort_s g 0 cap (ts.map bytesOf) w hH (Array.getElem?_eq_some_iff.1 hb).1 (by rw [e];omega);rw [e] at hc;refine Calls.mono hc ?_;rintro e' w' ⟨rfl,n,os,rfl⟩;have tr:∀a b c:List UInt8,decide (a<=b)=true->decide (b<=c)=true->decide (a<=c)=true:=fun a b c h1 h2=>by simp only [decide_eq_true_eq] at *;exact List.le_trans h1 h2
  have tot:∀a b:List UInt8,(decide (a<=b)||decide (b<=a))=true:=fun a b=>by simp only [Bool.or_eq_true,decide_eq_true_eq];exact List.le_total a b
  have hlen:((ts.map bytesOf).mergeSort fun x y=>decide (x<=y)).length=(ts.map bytesOf).length:=by simp
  have ho:=ownsRow_sorted (base:=base) (n:=n) (os:=os) hlen hbase hb (by rw [e];exact h1) h2 h3;refine ⟨rfl,((ts.map bytesOf).mergeSort fun x y=>decide (x<=y)).map mkText,?_,?_,?_,grownBy_sorted _⟩
  ·unfold OwnTx;rw [List.length_map,hlen,enc_map,e];rw [e] at ho;exact ho
  ·have h5:=(List.mergeSort_perm (ts.map bytesOf) fun x y=>decide (x<=y)).map mkText;refine h5.trans (List.Perm.of_eq ?_);rw [List.map_map]
   conv=>rhs;rw [<-List.map_id ts]
   apply List.map_congr_left
   intro s _;exact mk_bytes s
  ·rw [List.pairwise_map];refine (List.pairwise_mergeSort tr tot (ts.map bytesOf)).imp fun {a b} h=>?_
   exact le_cmpB (of_decide_eq_true h)
end Go.Proofs.YtgdmcnoogacdaaaGreatDoor

namespace Go.Proofs.YtgdmcnoogacdaaaGreatDoor
open Go.RowKit Go.Maps
set_option linter.unusedVariables false
set_option maxRecDepth 100000
theorem app_tg{w0:World}{ops:Array Oper}{rest:List Oper}{o:Oper}{a:Act}{Q:Exit->Act->World->Prop}(hgd:o.guard=none)(s y:Operand)
 (ho:o.op=.call { callee:=.builtin .append,args:=#[s,y],argTypes:=#[111,111] })
 (base:Nat)(v:Value)(ts:List ByteArray)(hs:a.eval s=v)(hF:OwnTx w0 base v ts)(x:ByteArray)(c:Nat)(hy:a.eval y=.slice (some ⟨w0.heap.size,0,none⟩) 1 c)(hn:ts.length<=4000000)(hbase:base<=w0.heap.size)
 (h:∀v' w',OwnTx w' base v' (ts++[x])->Below base w0 w'->(w0.alloc (.cells #[.string x] 9)).grownBy w' v.ownBlock->wpList Tryz.prog ops Q rest (a.put o.dst v') w'):
 wpList Tryz.prog ops Q (o::rest) a (w0.alloc (.cells #[.string x] 9)):=by
 obtain ⟨i0,hi,hz0,hz1,hz2⟩:=info_parts text_info;have hA:=below_one w0 (.cells #[.string x] 9);have hF1:=owntx_below hF hA;refine wpList_append_own_at _ hgd s y 111 ho base 9 i0 _ 1 16 Tryz.underlying111 hi hz0 hz1 hz2 rfl (by omega) v ts.length (ts.map Value.string) hs hF1 _ 1 c [.string x] hy rfl (cell_one_new w0 _ _) (by intro u hu;simp at hu;subst hu;rfl)
  (by simp only [maxLen];omega) (by omega) (Nat.le_trans hbase hA.size) ?_
 intro v' w' h1 h2 _ _;refine h v' w' ?_ (Below.grown (hA.mono hbase) h2 (Nat.le_trans hbase hA.size) (fun k hk=>(World.ownsRow.lt hF1 _ hk).1)) h2;unfold OwnTx;rw [List.length_append,List.map_append];exact h1
theorem ixs_keyed:Keyed Tryz.prog 9:=string_keyed Tryz.underlying9
theorem ixs_key{s:ByteArray}(hs:s.size<=maxLen):keyOf Tryz.prog 9 (.string s)=some (.string (bytesOf s)):=Go.WideMaps.keyOf_string_mk Tryz.underlying9 hs
theorem bytesOf_inj{a b:ByteArray}(h:bytesOf a=bytesOf b):a=b:=by rw [<-mk_bytes a,<-mk_bytes b,h]
def SetS(w:World)(b:Nat)(T:List ByteArray):Prop :=
 ∃D:DataW Unit,w.ownsMap Tryz.prog 9 unitElem b T.length D/\∀s:ByteArray,has D (.string (bytesOf s))=true↔s∈T
theorem SetS.block{w w':World}{b:Nat}{T:List ByteArray}(h:SetS w b T)(hb:w'.heap[b]?=w.heap[b]?):SetS w' b T:=by
 obtain ⟨D,⟨es,clock,h1,h2⟩,r⟩:=h;exact ⟨D,⟨es,clock,hb.trans h1,h2⟩,r⟩
theorem SetS.lt{w:World}{b:Nat}{T:List ByteArray}(h:SetS w b T):b<w.heap.size:=by
 obtain ⟨D,h1,_⟩:=h;exact h1.lt
theorem SetS.alloc{w:World}{b:Nat}{T:List ByteArray}(h:SetS w b T)(o:Obj):SetS (w.alloc o) b T:=h.block (heap_alloc_old w o h.lt)
theorem SetS.grown{w w':World}{b:Nat}{T:List ByteArray}{row:Option Nat}(h:SetS w b T)(hg:w.grownBy w' row)(hne:some b≠row):SetS w' b T:=h.block (hg.block b h.lt hne)
theorem sets_made(w:World):SetS (w.alloc (.map #[] 0)) w.heap.size [] :=
 ⟨_,World.ownsMap_made w Tryz.prog 9 unitElem,fun s=>by
  constructor
  ·intro h;simp [has] at h
  ·intro h;cases h⟩
theorem sets_add{w:World}{b:Nat}{T:List ByteArray}(h:SetS w b T)(s:ByteArray)(hs:s.size<=maxLen)(hT:T.length<maxLen):
 ∃w',(Instr.mapUpdate 216 (.map (some b)) (.string s) (.agg #[])).run Tryz.prog w=.ok () w'/\SetS w' b (T++[s])/\w.grownBy w' (some b):=by
 obtain ⟨D,h1,h2⟩:=h;obtain ⟨w',hrun,h3,h4⟩:=h1.update ixs_keyed Tryz.underlying216 hT (ixs_key hs) unitElem_mk;refine ⟨w',hrun,⟨_,by rw [List.length_append,List.length_singleton];exact h3,fun u=>?_⟩,h4⟩;rw [List.mem_append,List.mem_singleton]
 by_cases hu:u=s
 ·subst hu;rw [has_put_same (k:=.string (bytesOf u)) h1.isMap trivial];simp
 ·rw [has_put_other (fun e=>hu (bytesOf_inj (Lit.string.inj e))),h2];simp [hu]
theorem sz_of{ss:List (List Lbl)}(hr:∀l∈ss,lbChk l=0){p:Lbl}(h:∃l∈ss,p∈l):Sz p:=by
 obtain ⟨l,hl,hp⟩:=h;have:=label_sizes (hr l hl) hp;exact ⟨by simp only [maxLen];omega,by simp only [maxLen];omega⟩
def addV(Xs:Nat):Value:=.func (.func 141) #[] #[.pointer (some ⟨Xs,0,none⟩)]
theorem add_prog{w:World}{Xs b:Nat}{T:List ByteArray}(hX:Row w Xs 216 #[.map (some b)])(h:SetS w b T)(s:ByteArray)(hs:s.size<=maxLen)(hT:T.length<maxLen):
 Calls Tryz.prog 141 #[.string s,.pointer (some ⟨Xs,0,none⟩)] w fun e w'=>e=.returned (.tuple #[])/\SetS w' b (T++[s])/\w.grownBy w' (some b):=by
 obtain ⟨w',hrun,h1,h2⟩:=sets_add h s hs hT;have c0:=hX.cell 0;have H1:=zz h1;have H2:=zz h2;clear h1 h2 hX h;go_enter Tryz.func141,Tryz.ntmps141
 go_wp2_with fail
 go_end0
 exact ⟨rfl,H1.out,H2.out⟩
def PickC(fn:Nat)(caps:Array Value)(pk:Lbl->List ByteArray)(w:World):Prop :=
 ∀(x:World) (p:Lbl) (T:List ByteArray) (Xs b:Nat),Below w.heap.size w x->Sz p->Row x Xs 216 #[.map (some b)]->w.heap.size<=b->SetS x b T->T.length<=1000000 ->
  Calls Tryz.prog fn (#[pairV p,addV Xs]++caps) x fun e w'=>e=.returned (.tuple #[])/\SetS w' b (T++pk p)/\x.grownBy w' (some b)
theorem pickt_prog(w:World):PickC 102 #[] pickT w:=by
 intro x p T Xs b hB hp hX hb hT hl;have hR:=Row.new x 169 #[.string p.1,.string p.2];have HXA:=zz (hX.alloc (.cells #[.string p.1,.string p.2] 169));have HA:=zz (add_prog (hX.alloc (.cells #[.string p.1,.string p.2] 169)) (hT.alloc (.cells #[.string p.1,.string p.2] 169)) p.1 hp.1 (by simp only [maxLen];omega));have c0:=hR.cell 0;have hbl:=hT.lt;have hne:x.heap.size≠b:=by omega
 have hXb:Xs≠b:=fun e=>by
  obtain ⟨D,⟨es,ck,hm,_⟩,_⟩:=hT;unfold Row at hX;rw [e,hm] at hX
  cases hX
 have HRR:=zz hR;have h2s:=hp.2;clear hX hT hR;unfold pairV addV;go_enter Tryz.func102,Tryz.ntmps102
 go_upto_region 2 with (first|(go_at_call 141;refine HA.out.mono ?_;rintro e w2 ⟨rfl,hs2,hg2⟩;have HS2:=zz hs2;have HG2:=zz hg2;clear hs2 hg2))
 have HX2:=zz (grown_row HXA.out HG2.out (fun e=>by injection e with e;exact hXb e));have c1:=(grown_row HRR.out HG2.out (fun e=>by injection e with e;exact hne e)).cell 1;have HA2:=zz (add_prog HX2.out HS2.out p.2 h2s (by rw [List.length_append,List.length_singleton];simp only [maxLen];omega))
 go_wp2_with (first|(go_at_call 141;refine HA2.out.mono ?_;rintro e w3 ⟨rfl,hs3,hg3⟩;have HS3:=zz hs3;have HG3:=zz hg3;clear hs3 hg3))
 go_end0
 refine ⟨rfl,?_,((World.grownBy_alloc x _ _).trans HG2.out).trans HG3.out⟩;have:=HS3.out;rw [List.append_assoc] at this;exact this
set_option maxHeartbeats 4000000 in
theorem gath_texts(X:Nat)(ss:List (List Lbl))(base:Nat)(w:World)(hI:IdxAt w base X ss)(hr:ixChk ss=0)(hPK:PickC 102 #[] pickT w):
 Calls Tryz.prog 101 #[.pointer (some ⟨X,0,none⟩),.func (.func 102) #[] #[]] w fun e w'=>∃v us,e=.returned v/\OwnTx w' w.heap.size v us/\UpF cmpB us/\(∀s,s∈us↔∃p,(∃l∈ss,p∈l)/\s∈pickT p)/\us.length<=5000/\Below w.heap.size w w':=by
 obtain ⟨h256,_,hrr⟩:=ixChk_right hr;have h8:∀l∈ss,l.length<=8:=fun l hl=>(lbChk_ok.1 (hrr l hl)).1
 have hlen:=evs_len ss h8 ss.length (Nat.le_refl _) 0 (by omega);have hpkl:∀p,(pickT p).length<=2:=fun p=>by simp [pickT]
 have hsz:∀p,(∃l∈ss,p∈l)->∀s∈pickT p,s.size<=maxLen:=fun p ⟨l,hl,hp⟩ s hs=>by
  have:=label_sizes (hrr l hl) hp;have h64:s.size<=64:=by simp only [pickT,List.mem_cons,List.not_mem_nil,or_false] at hs;rcases hs with rfl|rfl<;>omega
  simp only [maxLen];omega
 obtain ⟨_,v0,M,hMb,hX,_,hP⟩:=hI;obtain ⟨D,hown,hkeys⟩:=post_owns hP;have hML:=hP.lt;have HKEY:=zz (fun kl=>(hkeys kl).trans (exists_congr fun p=>and_congr_right fun _=>and_congr_left fun _=>(idsE_pos _ p).trans (evs_mem ss p)));have hDn:=hown.size_le;have HDN:=zz (show Maps.size D<=2056 from by omega);have hXL:=hX.lt;have x1:=hX.cell 1;obtain ⟨n,hn⟩:∃n,(evsAt ss ss.length 0).length=n:=⟨_,rfl⟩;rw [hn] at hown;clear hn hlen hDn hkeys hP;have hmm:=@run_makeMap Tryz.prog;have HS2:=zz ((sets_made w).alloc (.cells #[.map (some w.heap.size)] 216));have HX2:=zz (row_at w (.map #[] 0) #[.map (some w.heap.size)] 216);have HB2:=zz (((Below.refl w.heap.size w).alloc (Nat.le_refl _) (.map #[] 0)).alloc (by simp) (.cells #[.map (some w.heap.size)] 216));have HO2:=zz ((hown.alloc (.map #[] 0)).alloc (.cells #[.map (some w.heap.size)] 216));have HXI:=zz hX;have HPK:=zz hPK;have HPL:=zz hpkl;have HSZ:=zz hsz;have x1a:((w.alloc (.map #[] 0)).alloc (.cells #[.map (some w.heap.size)] 216)).cell? ⟨X,1,none⟩=some (.map (some M)):=(((hX.alloc _).alloc _).cell 1).trans rfl;have HZ2:=zz (show ((w.alloc (.map #[] 0)).alloc (.cells #[.map (some w.heap.size)] 216)).heap.size=w.heap.size+2 from by simp);clear hX hown hPK hpkl hsz;go_enter Tryz.func101,Tryz.ntmps101
 go_upto_region 5 with fail
 clear hmm;generalize ((w.alloc (.map #[] 0)).alloc (.cells #[.map (some w.heap.size)] 216))=w2 at *
 go_wp2_with (first
  | (at_range;refine wpList_range_own _ rfl _ 114 rfl 169 59 pair_keyed Tryz.underlying114 noR M n D rfl HO2.out ?_;intro w3 hrg3 hg3 hs3;have HR3:=zz hrg3;have HG3:=zz hg3;clear hrg3 hg3 hs3))
 go_frame
 rw [HZ2.out] at HR3 ⊢;obtain ⟨NB,hNB⟩:∃NB,w.heap.size=NB:=⟨_,rfl⟩;have HNB:=zz hNB;rw [hNB] at HS2 HX2 HB2 HR3 hML ⊢;have HBS:=zz (show ∀x:World,Below NB w x->NB<=x.heap.size from fun x h=>by have:=h.size;omega);clear hNB x1 x1a
 go_loopw [7] (fun _ wr=>∃(left:Lit->Bool) (cnt:Nat) (T:List ByteArray),wr.ranges Tryz.prog 169 noR M (NB+2) n D left cnt/\Row wr (NB+1) 216 #[.map (some NB)]/\SetS wr NB T /\
  (∀s,s∈T↔∃p,(∃l∈ss,p∈l)/\left (klOf p)=false/\s∈pickT p)/\T.length+2*cnt<=2*Maps.size D/\Below NB w wr) (fun _ wr=>wr.rangeLeft M (NB+2))
 case atStart =>
  refine ⟨_,_,[],HR3.out,grown_row HX2.out HG3.out (fun e=>by cases e),HS2.out.grown HG3.out (fun e=>by cases e),fun s=>?_,by simp,HB2.out.grown HG3.out (by rw [HZ2.out,HNB.out];omega) (fun j hj=>by cases hj)⟩;constructor
  ·intro h;cases h
  ·rintro ⟨p,hp,hl,_⟩;have:=(HKEY.out (klOf p)).2 ⟨p,?_,hp,rfl⟩
   ·rw [hl] at this;cases this
   ·exact sz_of hrr hp
 case round =>
  obtain ⟨left,cnt,T,hrg,hX,hS,hT,hcnt,hB⟩:=hrel;have HRG:=zz hrg;have HX:=zz hX;have HS:=zz hS;have HT:=zz hT;have HB:=zz hB;have HC:=zz hcnt;clear hX hS hT hB hcnt
  go_wp2_with (first
   | (at_next;refine wpList_next_ranges _ rfl _ rfl 169 pair_keyed noR pairV (fun v:Value=>v) (fun key kl hk=>by obtain ⟨p,hp,_⟩:=pair_inv hk;exact ⟨p,hp⟩) (fun v y hv=>⟨v,rfl⟩) M (NB+2) n D left cnt rfl HRG.out ?_ ?_))
  ·intro hc0 hl0;have HTT:=zz (show ∀s,s∈T↔∃p,(∃l∈ss,p∈l)/\s∈pickT p from fun s=>(HT.out s).trans (exists_congr fun p=>by rw [hl0];simp));have HCC:=zz (show T.length<=4112 from by have:=HC.out;have:=HDN.out;omega);obtain ⟨D2,hown2,hh2⟩:=HS.out;have HO2b:=zz hown2;have HH2:=zz hh2;have HD2:=zz (hown2.size_le);have x5:=HX.out.cell 0;have hbz:NB<=wr.heap.size:=HBS.out _ HB.out;have hx5:=HX.out.lt;have hn5:=HS.out.lt;clear hown2 hh2 hc0 hl0 HT HC HRG
   go_wp2_with (first
    | (at_range;refine wpList_range_own _ rfl _ 216 rfl 9 217 ixs_keyed Tryz.underlying216 unitElem NB T.length D2 rfl HO2b.out ?_;intro w6 hrg6 hg6 hs6;have HR6:=zz hrg6;have HG6:=zz hg6;clear hrg6 hg6 hs6))
   go_frame
   have HB6:=zz (HB.out.grown HG6.out hbz (fun j hj=>by cases hj));obtain ⟨R2,hR2⟩:∃R2,wr.heap.size=R2:=⟨_,rfl⟩;rw [hR2] at HR6 hbz hx5 hn5 ⊢;clear hR2 HS HX HB x5 HG6 HO2b;generalize hwA:wr=wA at *;clear hwA
   go_loopw [8] (fun tx wr=>∃(left:Lit->Bool) (cnt:Nat) (us:List (List UInt8)),wr.ranges Tryz.prog 9 unitElem NB R2 T.length D2 left cnt/\OwnTx wr NB tx (us.map mkText)/\Collected D2 left us/\us.length+cnt<=Maps.size D2/\Below NB w wr) (fun _ wr=>wr.rangeLeft NB R2)
   case atStart=>exact ⟨_,_,[],HR6.out,owntx_nil _ _,Collected.start D2,by simp,HB6.out⟩
   case round =>
    obtain ⟨left2,cnt2,us,hrg,hO,hC,hcnt,hB⟩:=hrel;have HRG:=zz hrg;have HO:=zz hO;have HC:=zz hC;have HCN:=zz hcnt;have HB:=zz hB;clear hO hC hB hcnt
    go_wp2_with (first
     | (at_next;refine wpList_next_ranges _ rfl _ rfl 9 ixs_keyed unitElem Go.Proofs.encStr (fun v:Value=>v) (fun key kl hk=>by obtain ⟨x,hx,_⟩:=Maps.keyOf_str Tryz.underlying9 hk;exact ⟨x,hx⟩) (fun v y hv=>⟨v,rfl⟩) NB R2 T.length D2 left2 cnt2 rfl HRG.out ?_ ?_))
    ·intro hc1 hl1;have HL1:=zz hl1;have hul:us.length<=4112:=by have:=HCN.out;have:=HD2.out;have:=HCC.out;omega
     have HSO:=zz (sort_s HO.out (by rw [List.length_map];omega));have HUL:=zz hul;have HOB:=zz (fun q hq=>(World.ownsRow.lt HO.out q hq).1);clear hc1 hl1 hul hrg
     go_wp2_with (first|(go_at_call 142;refine HSO.out.mono ?_;rintro e w7 ⟨rfl,vs,ho7,hp7,hs7,hg7⟩;have HO7:=zz ho7;have HP7:=zz hp7;have HS7:=zz hs7;have HG7:=zz hg7;clear ho7 hp7 hs7 hg7))
     go_ret;have hnd:vs.Nodup:=HP7.out.nodup_iff.2 (List.pairwise_map.2 (HC.out.1.imp fun {a b} hne e=>hne (by have:=congrArg bytesOf e;simpa [bytes_mk] using this)));refine ⟨_,vs,rfl,by rw [HNB.out];exact HO7.out,?_,fun s=>?_,by rw [HP7.out.length_eq,List.length_map];have:=HUL.out;omega,by rw [HNB.out];exact HB.out.grown HG7.out (HBS.out _ HB.out) (fun q hq=>HOB.out q hq)⟩
     ·exact HS7.out.imp₂ (fun a b h1 h2=>by
       rcases cmp_ne cmpB_cmp h2 with h3|h3
       ·exact h3
       ·have:=cmpB_cmp.swap a b;omega) hnd
     ·rw [HP7.out.mem_iff,<-HTT.out s,<-HH2.out s,List.mem_map];constructor
      ·rintro ⟨x,hx,rfl⟩;exact ((HC.out.2 x).1 hx).1
      ·intro hh;exact ⟨bytesOf s,(HC.out.2 _).2 ⟨hh,HL1.out _⟩,mk_bytes s⟩
    ·intro x cv kl yd yp w8 cnt8 hkey hlk hv hat hrg8 hlt hg8 hs8 hen;obtain ⟨x',ex,rfl,_⟩:=Maps.keyOf_str Tryz.underlying9 hkey;obtain rfl:x=x':=encStr_inj ex;have HO8:Hid (OwnTx w8 NB u8 (us.map mkText)):=zz (rows_move HO.out fun q hq=>hg8.block q (World.ownsRow.lt HO.out q hq).2 (fun e=>by
      obtain ⟨cs,hc⟩:=rows_block HO.out hq;obtain ⟨es,clock,since,seen,c0,_,_,_,_,hr,_⟩:=HRG.out;unfold Row at hc;injection e with e;rw [e,hr] at hc
      cases hc))
     have HB8:=zz (HB.out.grown hg8 (HBS.out _ HB.out) (fun q hq=>by injection hq with hq;omega));have HR8:=zz hrg8;have HST:=zz (HC.out.step hlk hat);have hul:us.length<=4112:=by have:=HCN.out;have:=HD2.out;have:=HCC.out;omega
     have HLT:=zz hlt;have HRGO:=zz hrg;clear hs8 hrg8 hg8 hkey hlk hv hat ex hlt hrg
     go_wp2_with (first
      | (at_builtin;refine app_tg rfl (.tmp 33) (.tmp 35) rfl NB _ (us.map mkText) rfl HO8.out (mkText x) 1 rfl (by rw [List.length_map];omega) (HBS.out _ HB8.out) ?_;intro v9 w9 hO9 hB9 hG9;have HO9:=zz hO9;have HB9:=zz hB9;have HG9:=zz hG9;clear hO9 hB9 hG9))
     have hrg9:=(HR8.out.alloc (.cells #[.string (mkText x)] 9)).kept HG9.out (fun e=>by
      obtain ⟨cs,hc⟩:=rows_block HO8.out e.symm;obtain ⟨es,clock,hm,_⟩:=HR8.out.owns;unfold Row at hc;rw [hm] at hc
      cases hc) (fun e=>by
      obtain ⟨cs,hc⟩:=rows_block HO8.out e.symm;obtain ⟨es,clock,since,seen,c0,_,_,_,_,hr,_⟩:=HR8.out;unfold Row at hc;rw [hr] at hc
      cases hc)
     go_roundw
     case rel =>
      refine ⟨_,cnt8,us++[x],hrg9,by rw [List.map_append];exact HO9.out,HST.out,?_,HB8.out.trans HB9.out⟩;rw [List.length_append,List.length_singleton];have:=HCN.out;have:=HLT.out;omega
     case measure=>rw [hrg9.left_eq,HRGO.out.left_eq];exact HLT.out
  ·intro pn pv cv kl yd yp w4 cnt4 hkey hlk hv hat hrg4 hlt hg4 hs4 hen;obtain ⟨q,hq,hqs⟩:=pair_inv hkey;obtain rfl:(pn,pv)=q:=pairV_inj hq;have hkl:kl=klOf (pn,pv):=by rw [pair_key hqs] at hkey;exact (Option.some.inj hkey).symm
   subst hkl;have hin:∃l∈ss,(pn,pv)∈l:=by
    obtain ⟨p2,h1,h2,h3⟩:=(HKEY.out (klOf (pn,pv))).1 (has_true_of_atKey hat);rw [klOf_inj hqs h1 h3];exact h2
   have HX4:=zz ((grown_row HX.out hg4 (fun e=>by injection e with e;omega)).alloc (.cells #[.string pn,.string pv] 169));have HS4:=zz ((HS.out.grown hg4 (fun e=>by injection e with e;omega)).alloc (.cells #[.string pn,.string pv] 169));have HB4:=zz ((HB.out.grown hg4 (HBS.out _ HB.out) (fun j hj=>by injection hj with hj;omega)).alloc (by have:=HBS.out _ HB.out;have:=hg4.size;omega) (.cells #[.string pn,.string pv] 169));have HR4:=zz (hrg4.alloc (.cells #[.string pn,.string pv] 169));have hR4:=Row.new w4 169 #[.string pn,.string pv];have p0:=hR4.cell 0;have p1:=hR4.cell 1;have HTL:=zz (show T.length<=4112 from by have:=HC.out;have:=HDN.out;omega);have hcp:Calls Tryz.prog 102 (#[pairV (pn,pv),addV (NB+1)]++#[]) (w4.alloc (.cells #[.string pn,.string pv] 169)) fun e w'=>e=.returned (.tuple #[])/\SetS w' NB (T++pickT (pn,pv))/\(w4.alloc (.cells #[.string pn,.string pv] 169)).grownBy w' (some NB) :=
    HPK.out _ (pn,pv) T (NB+1) NB (by rw [HNB.out];exact HB4.out) hqs HX4.out (by rw [HNB.out];exact Nat.le_refl _) HS4.out (by have:=HTL.out;omega)
   have hcp2:Calls Tryz.prog 102 #[.agg #[.string pn,.string pv],.func (.func 141) #[] #[.pointer (some ⟨NB+1,0,none⟩)]] (w4.alloc (.cells #[.string pn,.string pv] 169)) fun e w'=>e=.returned (.tuple #[])/\SetS w' NB (T++pickT (pn,pv))/\(w4.alloc (.cells #[.string pn,.string pv] 169)).grownBy w' (some NB):=hcp
   have HCP:=zz hcp2;have HNEW:=zz (show ∀s,s∈T++pickT (pn,pv)↔∃q,(∃l∈ss,q∈l)/\(left (klOf q)&&!(klOf q).sameKey (klOf (pn,pv)))=false/\s∈pickT q from fun s=>by
    rw [List.mem_append,HT.out s];constructor
    ·rintro (⟨q,h1,h2,h3⟩|h1)
     ·exact ⟨q,h1,by rw [h2];rfl,h3⟩
     ·exact ⟨(pn,pv),hin,by rw [WideAt.sameKey_self (pair_keyed.key (pair_key hqs))];simp,h1⟩
    ·rintro ⟨q,h1,h2,h3⟩;rw [Bool.and_eq_false_iff] at h2;rcases h2 with h2|h2
     ·exact .inl ⟨q,h1,h2,h3⟩
     ·have h4:(klOf q).sameKey (klOf (pn,pv))=true:=by simpa using h2
      have h5:=klOf_inj (sz_of hrr h1) hqs (WideAt.sameKey_eq h4);rw [<-h5];exact .inr h3)
   have HLT:=zz hlt;have hpl:=HPL.out (pn,pv);have HPL2:=zz hpl;unfold pairV at hen ⊢;clear hs4 hrg4 hg4 hkey hlk hv hat hq hqs hin hlt hR4 hcp hcp2 hpl
   go_wp2_with (first|(go_at_call 102;refine HCP.out.mono ?_;rintro e w5 ⟨rfl,hs5,hg5⟩;have HS5:=zz hs5;have HG5:=zz hg5;clear hs5 hg5))
   have hrg5:=HR4.out.kept HG5.out (fun e=>by injection e with e;omega) (fun e=>by injection e with e;omega)
   go_roundw
   case rel =>
    refine ⟨_,cnt4,T++pickT (pn,pv),hrg5,grown_row HX4.out HG5.out (fun e=>by injection e with e;omega),HS5.out,HNEW.out,?_,HB4.out.grown HG5.out (HBS.out _ HB4.out) (fun j hj=>by injection hj with hj;omega)⟩;rw [List.length_append];have:=HC.out;have:=HLT.out;have:=HPL2.out;omega
   case measure=>rw [hrg5.left_eq,HRG.out.left_eq];exact HLT.out
def TxsTold(w:World)(ts:List ByteArray)(e:Ending)(w':World):Prop:=∃v,e=.returned v/\OwnTx w' w.heap.size v ts/\Below w.heap.size w w'
theorem texts_prog(X:Nat)(ss:List (List Lbl))(base:Nat)(w:World)(hI:IdxAt w base X ss)(hr:ixChk ss=0):
 Calls Tryz.prog 62 #[.pointer (some ⟨X,0,none⟩)] w (TxsTold w (ixTexts ss)):=by
 have HG:=zz (gath_texts X ss base w hI hr (pickt_prog w));clear hI;go_enter Tryz.func62,Tryz.ntmps62
 go_wp2_with (first|(go_at_call 101;refine HG.out.mono ?_;rintro e w2 ⟨v,us,rfl,ho,hu,hm,_,hb⟩;have HO:=zz ho;have HU:=zz hu;have HM:=zz hm;have HB:=zz hb;clear ho hu hm hb))
 go_ret;have e:us=ixTexts ss:=setF_of cmpB_cmp HU.out fun s=>(HM.out s).trans (pick_texts ss s)
 exact ⟨v,rfl,by rw [<-e];exact HO.out,HB.out⟩
theorem len_prog(X:Nat)(ss:List (List Lbl))(base:Nat)(w:World)(hI:IdxAt w base X ss):
 Calls Tryz.prog 56 #[.pointer (some ⟨X,0,none⟩)] w fun e w'=>e=.returned (.int .i64 (ss.length:Int))/\w'=w:=by
 obtain ⟨_,v,M,_,hX,hO,_⟩:=hI;obtain ⟨P,c,rfl,_,_,_⟩:=ownsets_slice hO;have x0:=hX.cell 0;clear hX hO;go_enter Tryz.func56,Tryz.ntmps56
 go_wp2_with fail
 go_ret;exact ⟨rfl,rfl⟩
theorem labels_yes(X:Nat)(ss:List (List Lbl))(base:Nat)(w:World)(hI:IdxAt w base X ss)(hr:ixChk ss=0)(id:Nat)(hid:id<ss.length):
 Calls Tryz.prog 53 #[.pointer (some ⟨X,0,none⟩),.int .i64 (id:Int)] w fun e w'=>∃v,e=.returned (.tuple #[v,.int .i64 0])/\OwnL w' w.heap.size v (ss.getD id [])/\Below w.heap.size w w':=by
 have h8:=(lbChk_ok.1 ((ixChk_right hr).2.2 _ (ss_at hid))).1;obtain ⟨_,v,M,_,hX,hO,_⟩:=hI;obtain ⟨P,c,rfl,_,hS,_⟩:=ownsets_slice hO;obtain ⟨b1,o1,A1,c1,rfl,hb1,g0,hL1,_⟩:=hS.at_ hid;have x0:=hX.cell 0;have HC:=zz (ixclone_prog A1 (ss.getD id []) c1 w hL1 (by omega));have i1:decide ((id:Int)<0)=false:=decide_eq_false (by omega);have i2:(id:Int)<(ss.length:Int):=by omega
 have i3:decide ((ss.length:Int)<=(id:Int))=false:=decide_eq_false (by omega);have i4:decide ((id:Int)>=(ss.length:Int))=false:=decide_eq_false (by omega);generalize ss.getD id []=l at *;clear hX hO hS hL1;go_enter Tryz.func53,Tryz.ntmps53
 go_wp2_with (first|(go_at_call 91;refine HC.out.mono ?_;rintro e w2 ⟨v2,rfl,ho2,hb2⟩;have HO2:=zz ho2;have HB2:=zz hb2;clear ho2 hb2))
 go_ret2;exact ⟨_,rfl,HO2.out,HB2.out⟩
theorem labels_no(X:Nat)(ss:List (List Lbl))(base:Nat)(w:World)(hI:IdxAt w base X ss)(id:Int)(hid:id<0\/(ss.length:Int)<=id):
 Calls Tryz.prog 53 #[.pointer (some ⟨X,0,none⟩),.int .i64 id] w fun e w'=>e=.returned (.tuple #[.slice none 0 0,.int .i64 9])/\w'=w:=by
 obtain ⟨_,v,M,_,hX,hO,_⟩:=hI;obtain ⟨P,c,rfl,_,_,_⟩:=ownsets_slice hO;have x0:=hX.cell 0;clear hX hO
 by_cases h1:id<0
 ·have i1:decide (id<0)=true:=decide_eq_true h1;clear hid;go_enter Tryz.func53,Tryz.ntmps53
  go_wp2_with fail
  go_ret2;exact ⟨rfl,rfl⟩
 ·have i1:decide (id<0)=false:=decide_eq_false h1;have h2:(ss.length:Int)<=id:=hid.resolve_left h1;have i3:decide ((ss.length:Int)<=id)=true:=decide_eq_true h2;clear hid;go_enter Tryz.func53,Tryz.ntmps53
  go_wp2_with fail
  go_ret2;exact ⟨rfl,rfl⟩
end Go.Proofs.YtgdmcnoogacdaaaGreatDoor
