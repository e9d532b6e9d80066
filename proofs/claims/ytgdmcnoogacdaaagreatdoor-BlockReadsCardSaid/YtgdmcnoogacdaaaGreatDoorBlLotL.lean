/- In one text, written by lotify.py: IxRows, IxRef1, IxLayMath, IxRef4, IxOwn, IxRef2. -/
import Derived.Test.YtgdmcnoogacdaaaGreatDoorBlLotK
namespace Go.Proofs.YtgdmcnoogacdaaaGreatDoor
open Go.ChangeShapes Go.WideShapes Go.ChangeAt Go.RowKit Go.Joins Go.Maps
set_option linter.unusedVariables false
abbrev LPl:=Option Addr × Nat × List Lbl
def slE(p:LPl):Value:=.slice p.1 p.2.2.length p.2.1
def Sets(w:World)(V:Option Addr)(ss:List (List Lbl)):Prop :=
 ∃ps:List LPl,ps.map (fun p=>p.2.2)=ss/\At w V (ps.map slE)/\∀p∈ps,Lbls w p.1 p.2.2/\p.2.2.length<=p.2.1
theorem Sets.below{w w':World}{V:Option Addr}{ss:List (List Lbl)}(h:Sets w V ss)(hb:Below w.heap.size w w'):Sets w' V ss:=by
 obtain ⟨ps,h1,h2,h3⟩:=h;exact ⟨ps,h1,h2.below hb,fun p hp=>⟨(h3 p hp).1.below hb,(h3 p hp).2⟩⟩
theorem Sets.at_{w:World}{V:Option Addr}{ss:List (List Lbl)}(h:Sets w V ss){i:Nat}(hi:i<ss.length):
 ∃b o A c,V=some ⟨b,o,none⟩/\b<w.heap.size/\w.cell? ⟨b,o+i,none⟩=some (.slice A (ss.getD i []).length c)/\Lbls w A (ss.getD i [])/\(ss.getD i []).length<=c:=by
 obtain ⟨ps,rfl,h2,h3⟩:=h;rw [List.length_map] at hi;have hg:(ps.map fun p=>p.2.2).getD i []=ps[i].2.2:=by simp [List.getD_eq_getElem?_getD,hi]
 rcases h2 with h2|⟨b,o,rfl,hb,hc⟩
 ·rw [List.map_eq_nil_iff] at h2;subst h2;simp at hi
 ·obtain ⟨k1,k2⟩:=h3 ps[i] (List.getElem_mem hi);refine ⟨b,o,ps[i].1,ps[i].2.1,rfl,hb,?_,by rw [hg];exact k1,by rw [hg];exact k2⟩;rw [hg];exact hc i (slE ps[i]) (by rw [List.getElem?_map,List.getElem?_eq_getElem hi];rfl)
def OwnSets(w:World)(base:Nat)(v:Value)(ss:List (List Lbl)):Prop :=
 ∃ps:List LPl,ps.map (fun p=>p.2.2)=ss/\w.ownsRow base 56 1 v ps.length (ps.map slE)/\∀p∈ps,(Lbls w p.1 p.2.2/\p.2.2.length<=p.2.1)/\OwnL w base (slE p) p.2.2
section
variable {w w':World} {base:Nat} {v:Value} {ss:List (List Lbl)}
theorem ownsets_nil(w:World)(base:Nat):OwnSets w base (.slice none 0 0) []:=⟨[],rfl,⟨rfl,.inl ⟨rfl,rfl⟩⟩,fun p hp=>by cases hp⟩
theorem ownsets_below(h:OwnSets w base v ss)(hb:Below w.heap.size w w'):OwnSets w' base v ss:=by
 obtain ⟨ps,h1,h2,h3⟩:=h;exact ⟨ps,h1,rows_below h2 hb,fun p hp=>⟨⟨(h3 p hp).1.1.below hb,(h3 p hp).1.2⟩,ownl_below (h3 p hp).2 hb⟩⟩
theorem ownsets_lower{base':Nat}(h:OwnSets w base v ss)(hb:base'<=base):OwnSets w base' v ss:=by
 obtain ⟨ps,h1,h2,h3⟩:=h;exact ⟨ps,h1,rows_lower h2 hb,fun p hp=>⟨(h3 p hp).1,ownl_lower (h3 p hp).2 hb⟩⟩
theorem ownsets_slice(h:OwnSets w base v ss):∃P c,v=.slice P ss.length c/\ss.length<=c/\Sets w P ss/\∀ad,P=some ad->base<=ad.block:=by
 obtain ⟨ps,rfl,h2,h3⟩:=h;obtain ⟨P,c,h4,h5,h6,h7⟩:=rows_slice h2;exact ⟨P,c,by rw [List.length_map];exact h4,by rw [List.length_map];exact h5,⟨ps,rfl,h6,fun p hp=>(h3 p hp).1⟩,h7⟩
theorem own_apart_sets{base':Nat}{a:Value}{x:List Lbl}{ps:List LPl}(h:OwnL w base' a x)(hv:w.ownsRow base 56 1 v ps.length (ps.map slE)):∀k,a.ownBlock=some k->v.ownBlock≠some k:=by
 intro k hk e;rcases h.2 with ⟨rfl,_⟩|⟨g,cap,cur,rfl,_,hh,_⟩
 ·cases hk
 ·rcases hv.2 with ⟨rfl,_⟩|⟨g',cap',cur',rfl,_,hh',_⟩
  ·cases e
  ·simp only [Value.ownBlock,Option.some.injEq] at hk e;subst hk;subst e;rw [hh] at hh';injection hh' with hh';injection hh' with _ h2 _;exact absurd h2 (by decide)
end
theorem set_info:(Tryz.prog.info? 56).map (fun i=>(i.zero,i.size,i.bytes))=some (some (.slice none 0 0),1,24):=by kernel_rfl
theorem app_set{w0:World}{ops:Array Oper}{rest:List Oper}{o:Oper}{a:Act}{Q:Exit->Act->World->Prop}(hgd:o.guard=none)(s y:Operand)
 (ho:o.op=.call { callee:=.builtin .append,args:=#[s,y],argTypes:=#[78,78] })
 (base:Nat)(v:Value)(ss:List (List Lbl))(hs:a.eval s=v)(hF:OwnSets w0 base v ss)(B:Option Addr)(l:List Lbl)(d c:Nat)(hx:OwnL w0 base (.slice B l.length d) l)(hld:l.length<=d)(hB:Lbls w0 B l)
 (hy:a.eval y=.slice (some ⟨w0.heap.size,0,none⟩) 1 c)(hn:ss.length<=5864062014800)(hbase:base<=w0.heap.size)
 (h:∀v' w',OwnSets w' base v' (ss++[l])->Below base w0 w'->wpList Tryz.prog ops Q rest (a.put o.dst v') w'):
 wpList Tryz.prog ops Q (o::rest) a (w0.alloc (.cells #[.slice B l.length d] 56)):=by
 obtain ⟨i0,hi,hz0,hz1,hz2⟩:=info_parts set_info;have hA:=below_one w0 (.cells #[.slice B l.length d] 56);obtain ⟨ps,rfl,h2,h3⟩:=ownsets_below hF hA;have hx1:=ownl_below hx hA;have hB1:=hB.below hA;rw [List.length_map] at hn;refine wpList_append_own_at _ hgd s y 78 ho base 56 i0 _ 1 24 Tryz.underlying78 hi hz0 hz1 hz2 rfl (by omega) v ps.length (ps.map slE) hs h2 _ 1 c [.slice B l.length d] hy rfl (cell_one_new w0 _ _) (by intro u hu;simp at hu;subst hu;rfl)
  (by simp only [maxLen];omega) (by omega) (Nat.le_trans hbase hA.size) ?_
 intro v' w' k1 k2 _ _;have hkeep:∀{u:Value} {x:List Lbl},OwnL _ base u x->OwnL w' base u x:=fun {u x} hu=>by
  refine rows_move hu fun k hk=>k2.block k (World.ownsRow.lt hu k hk).2 (fun e=>own_apart_sets hu h2 k hk e.symm)
 refine h v' w' ⟨ps++[(B,d,l)],by simp,by rw [List.length_append,List.map_append];exact k1,fun p hp=>?_⟩ (Below.grown (hA.mono hbase) k2 (Nat.le_trans hbase hA.size) (fun k hk=>(World.ownsRow.lt h2 _ hk).1));rcases List.mem_append.1 hp with hp|hp
 ·obtain ⟨⟨_,m2⟩,m3⟩:=h3 p hp;have m4:=hkeep m3;obtain ⟨P,c',e,_,m5,_⟩:=ownl_slice m4;obtain ⟨rfl,_,rfl⟩:=Value.slice.inj e;exact ⟨⟨m5,m2⟩,m4⟩
 ·obtain rfl:=List.mem_singleton.1 hp;have m4:=hkeep hx1;obtain ⟨P,c',e,_,m5,_⟩:=ownl_slice m4;obtain ⟨rfl,_,rfl⟩:=Value.slice.inj e;exact ⟨⟨m5,hld⟩,m4⟩
section
variable {H:Type} {enc:TypeId × Value->H} {W:World} {base:Nat} {sp:Nat->Bool} {held:Bool}
end
end Go.Proofs.YtgdmcnoogacdaaaGreatDoor

namespace Go.Proofs.YtgdmcnoogacdaaaGreatDoor
open Go.RowKit Go.Maps
set_option linter.unusedVariables false
theorem ret_ix{a b:Int}(h:a=b):Ending.returned (.int .i64 a)=.returned (.int .i64 b):=by rw [h]
theorem idx_first{ts:List ByteArray}{s:ByteArray}{k:Nat}(hk:k<ts.length)(he:ts.getD k txt0=s)(hb:∀j,j<k->ts.getD j txt0≠s):placeF ts s=k:=by
 rw [getD_at hk] at he;refine placeF_first hk he fun j hj=>?_
 have:=hb j hj;rwa [getD_at (by omega)] at this
theorem place_ref(A:Option Addr)(ts:List ByteArray)(c:Nat)(s:ByteArray)(w:World)(hA:Tx w A ts)(hs:s∈ts)(hl:ts.length<=1000000):
 Calls Tryz.prog 111 #[.slice A ts.length c,.string s] w fun e w'=>e=.returned (.int .i64 (placeF ts s:Int))/\w=w':=by
 have HA:=zz hA;have HS:=zz hs;clear hA hs;go_enter Tryz.func111,Tryz.ntmps111
 go_wp2_with fail
 go_loop [5] (fun i=>∃k:Nat,k<=ts.length/\i=.int .i64 (k:Int)/\∀j,j<k->ts.getD j txt0≠s) (fun i=>ts.length-(intOf i).toNat)
 case atStart=>exact ⟨0,Nat.zero_le _,rfl,fun j hj=>absurd hj (Nat.not_lt_zero j)⟩
 case round =>
  obtain ⟨k,hk,rfl,hb⟩:=hrel;have HB:=zz hb;clear hb
  by_cases hlt:k<ts.length
  ·obtain ⟨b1,o1,rfl,hb1,c0⟩:=HA.out.at_ hlt;have i1:(k:Int)<(ts.length:Int):=by omega
   have HI:=zz (fun he=>idx_first hlt he HB.out);have HN:=zz (fun (he:ts.getD k txt0≠s)=>(show ∀j,j<k+1->ts.getD j txt0≠s from fun j hj=>by
    rcases Nat.lt_or_ge j k with h|h
    ·exact HB.out j h
    ·rw [show j=k from by omega];exact he))
   generalize ts.getD k txt0=x at *
   by_cases he:x=s
   ·have HP:=zz (HI.out he);subst he;have j1:(x.toList==x.toList)=true:=by simp
    go_wp2_with fail
    go_ret;exact ⟨ret_ix (by rw [HP.out]),rfl⟩
   ·have j1:(x.toList==s.toList)=false:=by rw [eq_cmp];exact decide_eq_false fun h=>he ((cmpB_cmp.zero _ _).1 h)
    have HN2:=zz (HN.out he)
    go_wp2_with fail
    exact ⟨⟨k+1,by omega,by go_num,HN2.out⟩,by simp [intOf];omega⟩
  ·exfalso
   obtain ⟨hp,he⟩:=place_get HS.out;exact HB.out (placeF ts s) (by omega) (by rw [getD_at hp];exact he)
def accL(g:Lbl->ByteArray)(B0:List ByteArray)(ss:List (List Lbl))(i k:Nat):List ByteArray:=B0++((ss.take i).flatMap fun l=>l.map g)++((ss.getD i []).take k).map g
theorem acc_step(g:Lbl->ByteArray)(B0:List ByteArray)(ss:List (List Lbl))(i:Nat){k:Nat}(hk:k<(ss.getD i []).length):accL g B0 ss i (k+1)=accL g B0 ss i k++[g ((ss.getD i []).getD k lbl0)]:=by
 unfold accL;have h:=List.getElem?_eq_getElem hk;have hg:(ss.getD i []).getD k lbl0=(ss.getD i [])[k]:=by rw [List.getD_eq_getElem?_getD,h];rfl
 rw [List.take_succ_eq_append_getElem hk,List.map_append,hg];simp
theorem acc_row(g:Lbl->ByteArray)(B0:List ByteArray)(ss:List (List Lbl)){i:Nat}(hi:i<ss.length):accL g B0 ss i (ss.getD i []).length=accL g B0 ss (i+1) 0:=by
 unfold accL;have hg:ss.getD i []=ss[i]:=by rw [List.getD_eq_getElem?_getD,List.getElem?_eq_getElem hi];rfl
 rw [List.take_length,List.take_zero,List.map_nil,List.append_nil,List.take_succ_eq_append_getElem hi,List.flatMap_append,hg];simp
theorem acc_end(g:Lbl->ByteArray)(B0:List ByteArray)(ss:List (List Lbl)):accL g B0 ss ss.length 0=B0++ss.flatMap fun l=>l.map g:=by
 unfold accL;rw [List.take_length,List.take_zero];simp
theorem flat8(g:Lbl->ByteArray):∀(ls:List (List Lbl)),(∀l∈ls,l.length<=8)->(ls.flatMap fun l=>l.map g).length<=8*ls.length:=by
 intro ls
 induction ls with
 | nil=>intro _;simp
 | cons l ls ih =>
   intro h;rw [List.flatMap_cons,List.length_append,List.length_map,List.length_cons];have h2:=ih (fun x hx=>h x (List.mem_cons_of_mem _ hx));have h3:=h l (by simp);omega
theorem getD_mem8{ss:List (List Lbl)}(h8:∀l∈ss,l.length<=8)(i:Nat):(ss.getD i []).length<=8:=by
 rcases Nat.lt_or_ge i ss.length with h|h
 ·rw [List.getD_eq_getElem?_getD,List.getElem?_eq_getElem h];exact h8 _ (List.getElem_mem h)
 ·rw [List.getD_eq_getElem?_getD,List.getElem?_eq_none h];simp
theorem acc_len(g:Lbl->ByteArray)(B0:List ByteArray){ss:List (List Lbl)}(h:ss.length<=256)(h8:∀l∈ss,l.length<=8)(i k:Nat):(setF cmpB (accL g B0 ss i k)).length<=B0.length+2056:=by
 refine Nat.le_trans (setF_len cmpB_cmp _) ?_;unfold accL;rw [List.length_append,List.length_append,List.length_map,List.length_take];have h1:=flat8 g (ss.take i) (fun l hl=>h8 l (List.mem_of_mem_take hl));rw [List.length_take] at h1;have h2:=getD_mem8 h8 i;omega
theorem acc_with(g:Lbl->ByteArray)(B0:List ByteArray)(ss:List (List Lbl))(i:Nat){k:Nat}(hk:k<(ss.getD i []).length):withF cmpB (setF cmpB (accL g B0 ss i k)) (g ((ss.getD i []).getD k lbl0))=setF cmpB (accL g B0 ss i (k+1)):=by
 rw [acc_step g B0 ss i hk,setF_app];rfl
set_option maxHeartbeats 1000000 in
theorem names_ref(V:Option Addr)(ss:List (List Lbl))(c:Nat)(w:World)(hV:Sets w V ss)(h256:ss.length<=256)(h8:∀l∈ss,l.length<=8):
 Calls Tryz.prog 148 #[.slice V ss.length c] w (TxTold w (ixNames ss)):=by
 have HV:=zz (fun (x:World) (h:Below w.heap.size w x)=>hV.below h);have HL:=zz (fun i k=>acc_len (fun x:Lbl=>x.1) ([]:List ByteArray) h256 h8 i k);have HB0:=zz (show (([]:List ByteArray)).length<=2100 from by simp);have H8:=zz (getD_mem8 h8);have H256:=zz h256;have HEND:=zz (show setF cmpB (accL (fun x:Lbl=>x.1) ([]:List ByteArray) ss ss.length 0)=ixNames ss from by rw [acc_end];rfl);have HNX:=zz (fun i k (hk:k<(ss.getD i []).length)=>acc_with (fun x:Lbl=>x.1) ([]:List ByteArray) ss i hk);have HROW:=zz (fun i (hi:i<ss.length)=>acc_row (fun x:Lbl=>x.1) ([]:List ByteArray) ss hi);clear hV h256 h8;go_enter Tryz.func148,Tryz.ntmps148
 go_wp2_with fail
 go_loopw [3,4] (fun u i wr=>∃(j:Nat) (P:Option Addr) (cu:Nat),j<=ss.length/\i=.int .i64 (j:Int)/\u=.slice P (setF cmpB (accL (fun x:Lbl=>x.1) ([]:List ByteArray) ss j 0)).length cu/\Tx wr P (setF cmpB (accL (fun x:Lbl=>x.1) ([]:List ByteArray) ss j 0))/\(setF cmpB (accL (fun x:Lbl=>x.1) ([]:List ByteArray) ss j 0)).length<=cu/\Below w.heap.size w wr) (fun _ i _=>ss.length-(intOf i).toNat)
 case atStart=>exact ⟨0,none,0,Nat.zero_le _,rfl,rfl,Tx.nil _ _,Nat.le_refl _,Below.refl _ _⟩
 case round =>
  obtain ⟨j,P,cu,hj,rfl,rfl,hT,hcu,hb⟩:=hrel
  by_cases hlt:j<ss.length
  ·have HR:=zz (HROW.out j hlt);have HT:=zz hT;have HCU:=zz hcu;have HB:=zz hb;have i1:(j:Int)<(ss.length:Int):=by omega
   have h8j:=H8.out j;clear hT hcu hb
   go_wp2_with fail
   go_loopw [3,5] (fun u i wr=>∃(k:Nat) (P:Option Addr) (cu:Nat),k<=(ss.getD j []).length/\i=.int .i64 (k:Int)/\u=.slice P (setF cmpB (accL (fun x:Lbl=>x.1) ([]:List ByteArray) ss j k)).length cu/\Tx wr P (setF cmpB (accL (fun x:Lbl=>x.1) ([]:List ByteArray) ss j k))/\(setF cmpB (accL (fun x:Lbl=>x.1) ([]:List ByteArray) ss j k)).length<=cu/\Below w.heap.size w wr) (fun _ i _=>(ss.getD j []).length-(intOf i).toNat)
   case atStart=>exact ⟨0,P,cu,Nat.zero_le _,rfl,rfl,HT.out,HCU.out,HB.out⟩
   case round =>
    obtain ⟨k,P2,cu2,hk,rfl,rfl,hT2,hcu2,hb2⟩:=hrel;obtain ⟨b1,o1,A1,c1,e1,hb1,g0,hL1,hlc1⟩:=(HV.out _ hb2).at_ hlt;subst e1;have HT2:=zz hT2;have HCU2:=zz hcu2;have HB2:=zz hb2;have HR2:=zz HR.out
    by_cases hkl:k<(ss.getD j []).length
    ·obtain ⟨b2,o2,rfl,hb3,x1,x2⟩:=hL1.at_ hkl;have HW:=zz (with_ref P2 (setF cmpB (accL (fun x:Lbl=>x.1) ([]:List ByteArray) ss j k)) cu2 ((fun x:Lbl=>x.1) ((ss.getD j []).getD k lbl0)) wr hT2 hcu2 (setF_up cmpB_cmp _) (by have:=HL.out j k;have:=HB0.out;omega));rw [HNX.out j k hkl] at HW;clear hT2 hcu2 hb2 hL1;unfold nmOf at x1;unfold vlOf at x2;obtain ⟨L2,hL2⟩:∃L,setF cmpB (accL (fun x:Lbl=>x.1) ([]:List ByteArray) ss j (k+1))=L:=⟨_,rfl⟩;rw [hL2] at HW;have HL2:=zz hL2;clear hL2;generalize (setF cmpB (accL (fun x:Lbl=>x.1) ([]:List ByteArray) ss j k)).length=n1 at *;generalize (ss.getD j []).getD k lbl0=y at *;generalize hnl:(ss.getD j []).length=nl at *;have i2:(k:Int)<(nl:Int):=by omega
     go_wp2_with (first|(go_at_call 149;refine HW.out.mono ?_;rintro e w5 ⟨P5,c5,rfl,hT5,hc5,hb5⟩;have HT5:=zz hT5;have HC5:=zz hc5;have HB5:=zz (below_then HB2.out hb5);clear hT5 hc5 hb5))
     go_roundw
     case rel=>exact ⟨k+1,P5,c5,by omega,by go_num,by rw [HL2.out],by rw [HL2.out];exact HT5.out,by rw [HL2.out];exact HC5.out,HB5.out⟩
     case measure=>simp [intOf];omega
    ·have hkk:k=(ss.getD j []).length:=by omega
     have HR3:=zz (show accL (fun x:Lbl=>x.1) ([]:List ByteArray) ss j k=accL (fun x:Lbl=>x.1) ([]:List ByteArray) ss (j+1) 0 from by rw [hkk];exact HR2.out);rw [HR3.out] at HT2 HCU2 ⊢;clear hT2 hcu2 hb2 hL1;obtain ⟨L2,hL2⟩:∃L,setF cmpB (accL (fun x:Lbl=>x.1) ([]:List ByteArray) ss (j+1) 0)=L:=⟨_,rfl⟩;rw [hL2] at HT2 HCU2 ⊢;have HL2:=zz hL2;clear hL2;generalize hnl:(ss.getD j []).length=nl at *;subst hkk;have h256b:=H256.out
     go_wp2_with fail
     go_roundw
     case rel=>exact ⟨j+1,P2,cu2,hlt,by go_num,by rw [HL2.out],by rw [HL2.out];exact HT2.out,by rw [HL2.out];exact HCU2.out,HB2.out⟩
     case measure=>simp [intOf];omega
  ·obtain rfl:j=ss.length:=by omega
   rw [HEND.out] at hT hcu ⊢;have HT:=zz hT;have HCU:=zz hcu;have HB:=zz hb;clear hT hcu hb;generalize ixNames ss=L2 at *
   go_wp2_with fail
   go_ret;exact ⟨P,cu,rfl,HT.out,HCU.out,HB.out⟩
end Go.Proofs.YtgdmcnoogacdaaaGreatDoor

namespace Go.Proofs.YtgdmcnoogacdaaaGreatDoor
set_option linter.unusedVariables false
def tL(s:ByteArray):List UInt8:=uintL s.size++strL s
def restT(ss:List (List Lbl))(k:Nat):List UInt8:=((ixTexts ss).drop k).flatMap tL++(uintL ss.length++ss.flatMap (setL (ixTexts ss)))
def restS(ss:List (List Lbl))(i:Nat):List UInt8:=(ss.drop i).flatMap (setL (ixTexts ss))
def restL(ss:List (List Lbl))(i k:Nat):List UInt8:=((ss.getD i []).drop k).flatMap (placeL (ixTexts ss))++restS ss (i+1)
theorem bytes_start(ss:List (List Lbl)):ixBytes ss=uintL (ixTexts ss).length++restT ss 0:=by
 unfold ixBytes restT;rw [List.drop_zero];simp only [List.append_assoc];rfl
theorem restT_next(ss:List (List Lbl)){k:Nat}(h:k<(ixTexts ss).length):restT ss k=tL ((ixTexts ss).getD k txt0)++restT ss (k+1):=by
 unfold restT;rw [List.drop_eq_getElem_cons h,List.flatMap_cons,List.append_assoc,getD_at h]
theorem restT_end(ss:List (List Lbl)):restT ss (ixTexts ss).length=uintL ss.length++restS ss 0:=by
 unfold restT restS;rw [List.drop_length,List.drop_zero];rfl
theorem restS_next(ss:List (List Lbl)){i:Nat}(h:i<ss.length):restS ss i=uintL (ss.getD i []).length++restL ss i 0:=by
 unfold restS restL restS;rw [List.drop_eq_getElem_cons h,List.flatMap_cons,List.drop_zero];have e:ss.getD i []=ss[i]:=by rw [List.getD_eq_getElem?_getD,List.getElem?_eq_getElem h];rfl
 rw [e,setL,List.append_assoc]
theorem restS_end(ss:List (List Lbl)):restS ss ss.length=[]:=by
 unfold restS;rw [List.drop_length];rfl
theorem restL_next(ss:List (List Lbl))(i:Nat){k:Nat}(h:k<(ss.getD i []).length):restL ss i k=uintL (placeF (ixTexts ss) (nmOf (ss.getD i []) k))++(uintL (placeF (ixTexts ss) (vlOf (ss.getD i []) k))++restL ss i (k+1)):=by
 unfold restL;have e:(ss.getD i [])[k]=(ss.getD i []).getD k lbl0:=by rw [List.getD_eq_getElem?_getD (l:=ss.getD i []),List.getElem?_eq_getElem h];rfl
 rw [List.drop_eq_getElem_cons h,List.flatMap_cons,e];unfold placeL nmOf vlOf;simp only [List.append_assoc]
theorem restL_end(ss:List (List Lbl))(i:Nat):restL ss i (ss.getD i []).length=restS ss (i+1):=by
 unfold restL;rw [List.drop_length];rfl
theorem flat_le{α:Type}(f:α->List UInt8)(b:Nat):∀(l:List α),(∀x∈l,(f x).length<=b)->(l.flatMap f).length<=b*l.length:=by
 intro l
 induction l with
 | nil=>intro _;simp
 | cons x l ih =>
   intro h;rw [List.flatMap_cons,List.length_append,List.length_cons,Nat.mul_succ];have:=h x (by simp);have:=ih fun y hy=>h y (List.mem_cons_of_mem _ hy)
   omega
theorem texts_len{ss:List (List Lbl)}(h:ixChk ss=0):(ixTexts ss).length<=4096:=by
 obtain ⟨h256,_,hr⟩:=ixChk_right h;have h1:=setF_len cmpB_cmp (textsOf ss);have h2:=texts_few ss fun l hl=>(lbChk_ok.1 (hr l hl)).1
 unfold ixTexts;omega
theorem text_size{ss:List (List Lbl)}(h:ixChk ss=0){s:ByteArray}(hs:s∈ixTexts ss):s.size<=64:=by
 obtain ⟨_,_,hr⟩:=ixChk_right h;obtain ⟨l,hl,x,hx,e⟩:=texts_of hs;have:=label_sizes (hr l hl) hx;rcases e with rfl|rfl<;>omega
theorem bytes_len{ss:List (List Lbl)}(h:ixChk ss=0):(ixBytes ss).length<=400000:=by
 obtain ⟨h256,_,hr⟩:=ixChk_right h;have h1:=texts_len h;have u:∀n:Nat,n<9223372036854775808->(uintL n).length<=9:=fun n hn=>uintL_9 hn
 rw [bytes_start];unfold restT;simp only [List.length_append];have a1:=u (ixTexts ss).length (by omega);have a2:=u ss.length (by omega);have a3:=flat_le tL 73 ((ixTexts ss).drop 0) fun s hs=>by
  have hs2:=text_size h (List.mem_of_mem_drop hs);unfold tL;rw [List.length_append,strL_length];have:=u s.size (by omega);omega
 have a4:=flat_le (setL (ixTexts ss)) 153 ss fun l hl=>by
  unfold setL;have h8:=(lbChk_ok.1 (hr l hl)).1;have b1:=u l.length (by omega);have b2:=flat_le (placeL (ixTexts ss)) 18 l fun x hx=>by
   unfold placeL;obtain ⟨m1,m2⟩:=texts_in hl hx;obtain ⟨k1,_⟩:=place_get m1;obtain ⟨k2,_⟩:=place_get m2;have c1:=u (placeF (ixTexts ss) x.1) (by omega);have c2:=u (placeF (ixTexts ss) x.2) (by omega);rw [List.length_append];omega
  rw [List.length_append];omega
 rw [List.drop_zero] at a3 ⊢;omega
end Go.Proofs.YtgdmcnoogacdaaaGreatDoor

namespace Go.Proofs.YtgdmcnoogacdaaaGreatDoor
open Go.RowKit Go.Maps
set_option linter.unusedVariables false
def restC(ss:List (List Lbl))(j:Nat):Int:=if j=0 then (match ss with
    | []=>0
    | l::r=>if lbChk l≠0 then lbChk l else ixChkF l r) else ixChkF (ss.getD (j-1) []) (ss.drop j)
theorem restC_zero{ss:List (List Lbl)}(h:¬256<ss.length):ixChk ss=restC ss 0:=by
 unfold ixChk restC;rw [if_neg h,if_pos rfl]
 cases ss<;>rfl
theorem restC_end(ss:List (List Lbl)):restC ss ss.length=0:=by
 unfold restC
 split
 ·rename_i h;rw [List.eq_nil_of_length_eq_zero h]
 ·rw [List.drop_length];rfl
theorem ix_drawn(B:Nat)(w:World)(n:Nat):Below B w (w.drewN n):=below_drewN' (Below.refl _ _) n
theorem getD_ss{ss:List (List Lbl)}{j:Nat}(h:j<ss.length):ss.getD j []=ss[j]:=by rw [List.getD_eq_getElem?_getD,List.getElem?_eq_getElem h];rfl
theorem restC_bad{ss:List (List Lbl)}{j:Nat}(h:j<ss.length)(hb:lbChk (ss.getD j [])≠0):restC ss j=lbChk (ss.getD j []):=by
 rw [getD_ss h] at hb ⊢;unfold restC
 split
 ·rename_i h0;subst h0
  cases ss with
  | nil=>simp at h
  | cons l r=>exact if_pos hb
 ·rw [List.drop_eq_getElem_cons h,ixChkF];exact if_pos hb
theorem restC_order{ss:List (List Lbl)}{m:Nat}(h:m+1<ss.length)(hb:lbChk (ss.getD (m+1) [])=0)(ho:0<=cmpLs (ss.getD m []) (ss.getD (m+1) [])):restC ss (m+1)=13:=by
 rw [getD_ss h] at hb ho;unfold restC;rw [if_neg (by omega),List.drop_eq_getElem_cons h,ixChkF,if_neg (by omega),Nat.add_sub_cancel];exact if_pos ho
theorem restC_next{ss:List (List Lbl)}{j:Nat}(h:j<ss.length)(hb:lbChk (ss.getD j [])=0)(ho:j=0\/¬0<=cmpLs (ss.getD (j-1) []) (ss.getD j [])):restC ss j=restC ss (j+1):=by
 rw [getD_ss h] at hb ho;have e:restC ss (j+1)=ixChkF ss[j] (ss.drop (j+1)):=by
  unfold restC;rw [if_neg (by omega),Nat.add_sub_cancel,getD_ss h]
 rw [e];unfold restC
 split
 ·rename_i h0;subst h0
  cases ss with
  | nil=>simp at h
  | cons l r =>
    have hb':lbChk l=0:=hb
    show (if lbChk l≠0 then lbChk l else ixChkF l r)=_
    rw [if_neg (by omega)];rfl
 ·rename_i h0;rw [List.drop_eq_getElem_cons h,ixChkF,if_neg (by omega)];rcases ho with ho|ho
  ·exact absurd ho h0
  ·exact if_neg ho
set_option maxHeartbeats 1000000 in
theorem ixcheck_ref(V:Option Addr)(ss:List (List Lbl))(c:Nat)(w:World)(hV:Sets w V ss)(hl:ss.length<=100000000000000)
 (hC:∀x,Below w.heap.size w x->∀i,i<ss.length->∀A c',Lbls x A (ss.getD i [])->Calls Tryz.prog 76 #[.slice A (ss.getD i []).length c'] x fun e w'=>e=.returned (.int .i64 (lbChk (ss.getD i [])))/\Below x.heap.size x w')
 (hM:∀x,Below w.heap.size w x->∀i,i+1<ss.length->∀A c' B d',Lbls x A (ss.getD i [])->Lbls x B (ss.getD (i+1) [])->Calls Tryz.prog 77 #[.slice A (ss.getD i []).length c',.slice B (ss.getD (i+1) []).length d'] x fun e w'=>e=.returned (.int .i64 (cmpLs (ss.getD i []) (ss.getD (i+1) [])))/\Below x.heap.size x w'):
 Calls Tryz.prog 37 #[.slice V ss.length c] w fun e w'=>e=.returned (.int .i64 (ixChk ss))/\Below w.heap.size w w':=by
 by_cases hb:256<ss.length
 ·have i1:decide ((256:Int)<(ss.length:Int))=true:=decide_eq_true (by omega);have HE:=zz (show ixChk ss=3 from if_pos hb);clear hb;go_enter Tryz.func37,Tryz.ntmps37
  go_wp2_with fail
  go_ret;exact ⟨ret_ix HE.out.symm,Below.refl _ _⟩
 ·have i1:decide ((256:Int)<(ss.length:Int))=false:=decide_eq_false (by omega);rw [restC_zero hb];obtain ⟨E,hE⟩:∃E,restC ss 0=E:=⟨_,rfl⟩;rw [hE];have HE:=zz hE;have HV:=zz (fun (x:World) (h:Below w.heap.size w x)=>hV.below h);have HC:=zz hC;have HM:=zz hM;have H256:=zz hb;clear hV hC hM hE hb;go_enter Tryz.func37,Tryz.ntmps37
  go_wp2_with fail
  go_loopw [3] (fun i wr=>∃j:Nat,j<=ss.length/\i=.int .i64 (j:Int)/\restC ss j=E/\Below w.heap.size w wr) (fun i _=>ss.length-(intOf i).toNat)
  case atStart=>exact ⟨0,Nat.zero_le _,rfl,HE.out,Below.refl _ _⟩
  case round =>
   obtain ⟨j,hj,rfl,hr,hb⟩:=hrel;have HB:=zz hb;have HR:=zz hr
   by_cases hlt:j<ss.length
   ·obtain ⟨b1,o1,A1,c1,rfl,hb1,g0,hL1,hlc1⟩:=(HV.out _ hb).at_ hlt;have i2:(j:Int)<(ss.length:Int):=by omega
    have HCK:=zz (HC.out wr hb j hlt A1 c1 hL1);have HBAD:=zz (fun h=>restC_bad (ss:=ss) (j:=j) hlt h);have HNX:=zz (fun h h2=>restC_next (ss:=ss) (j:=j) hlt h h2);clear hr hb hL1
    by_cases hz:lbChk (ss.getD j [])=0
    ·rw [hz] at HCK
     by_cases h0:j=0
     ·subst h0;have HR2:=zz (show restC ss 1=E from by rw [<-HNX.out hz (.inl rfl)];exact HR.out);clear hz HBAD HNX;generalize (ss.getD 0 []).length=nl at *;rw [Nat.add_zero] at g0
      go_wp2_with (first|(go_at_call 76;refine HCK.out.mono ?_;rintro e w5 ⟨rfl,hb5⟩;have HB5:=zz (below_then HB.out hb5);clear hb5))
      go_quiet (fail)
      go_wp2
      go_roundw
      case rel=>exact ⟨1,hlt,by go_num,HR2.out,HB5.out.trans (ix_drawn _ _ _)⟩
      case measure=>simp [intOf];omega
     ·obtain ⟨m,hm⟩:∃m,m+1=j:=⟨j-1,by omega⟩;have HORD:=zz (fun h=>restC_order (ss:=ss) (m:=m) (by omega) (by rw [hm];exact hz) h);have HNX2:=zz (fun h=>HNX.out hz (.inr h));have HMM:=zz (fun x hx=>HM.out x hx m (by omega));rw [hm] at HORD HMM;rw [show j-1=m from by omega] at HNX2;have o9:IntKind.i64.wrap ((j:Int)-1)=(m:Int):=by rw [show (j:Int)-1=(m:Int) from by omega];exact IntWalk.i64_in _ (by have:=H256.out;omega)
      have i5:decide ((0:Int)<(j:Int))=true:=decide_eq_true (by omega);have i6:(m:Int)<(ss.length:Int):=by omega
      have i7:0<j:=by omega
      have i8:(0:Int)<(j:Int):=by omega
      have hmlt:m<ss.length:=by omega
      clear hz HBAD HNX hm h0;generalize hnl:(ss.getD j []).length=nl at *;generalize hnm:(ss.getD m []).length=nm at *;have HNL:=zz hnl;have HNM:=zz hnm;clear hnl hnm
      go_upto_region 9 with (first|(go_at_call 76;refine HCK.out.mono ?_;rintro e w5 ⟨rfl,hb5⟩;have HB5:=zz (below_then HB.out hb5);clear hb5))
      obtain ⟨b2,o2,A2,c2,e2,hb2,g2,hL2,hlc2⟩:=(HV.out _ HB5.out).at_ hmlt;have e2':=Option.some.inj e2;simp only [Addr.mk.injEq,and_true] at e2';obtain ⟨rfl,rfl⟩:=e2';obtain ⟨b3,o3,A3,c3,e3,hb3,g3,hL3,hlc3⟩:=(HV.out _ HB5.out).at_ hlt;have e3':=Option.some.inj e3;simp only [Addr.mk.injEq,and_true] at e3';obtain ⟨rfl,rfl⟩:=e3';rw [HNM.out] at g2;rw [HNL.out] at g3;have HCM:=zz (HMM.out _ (HB5.out.trans (ix_drawn _ _ 1)) A2 c2 A3 c3 (hL2.below (ix_drawn _ _ 1)) (hL3.below (ix_drawn _ _ 1)));clear hL2 hL3 e2 e3 g0
      by_cases hc:0<=cmpLs (ss.getD m []) (ss.getD j [])
      ·have HR2:=zz (show (13:Int)=E from by rw [<-HORD.out hc];exact HR.out);have j1:decide ((0:Int)<=cmpLs (ss.getD m []) (ss.getD j []))=true:=decide_eq_true hc;generalize cmpLs (ss.getD m []) (ss.getD j [])=E2 at *;clear hc
       go_region_held3 (fun w'=>w'.cell? ⟨b1,o1+m,none⟩=some (.slice A2 nm c2)/\w'.cell? ⟨b1,o1+j,none⟩=some (.slice A3 nl c3))
        (first|with_reducible assumption|go_keep)
        (first
          | (go_at_call 77
             refine HCM.out.mono ?_;rintro e w6 ⟨rfl,hb6⟩;have hb6':Below w5.heap.size w5 w6:=(ix_drawn w5.heap.size w5 1).trans hb6;have k2:=(hb6'.cell (p:=⟨b1,o1+m,none⟩) hb2).trans g2;have k3:=(hb6'.cell (p:=⟨b1,o1+j,none⟩) hb3).trans g3;have HB6:=zz (HB5.out.trans (hb6'.mono HB5.out.size));clear hb6 hb6'))
       all_goals
        go_wp2
        go_ret;exact ⟨ret_ix HR2.out,HB6.out⟩
      ·have HR2:=zz (show restC ss (j+1)=E from by rw [<-HNX2.out (by omega)];exact HR.out);have j1:decide ((0:Int)<=cmpLs (ss.getD m []) (ss.getD j []))=false:=decide_eq_false hc;generalize cmpLs (ss.getD m []) (ss.getD j [])=E2 at *;clear hc
       go_region_held3 (fun w'=>w'.cell? ⟨b1,o1+m,none⟩=some (.slice A2 nm c2)/\w'.cell? ⟨b1,o1+j,none⟩=some (.slice A3 nl c3))
        (first|with_reducible assumption|go_keep)
        (first
          | (go_at_call 77
             refine HCM.out.mono ?_;rintro e w6 ⟨rfl,hb6⟩;have hb6':Below w5.heap.size w5 w6:=(ix_drawn w5.heap.size w5 1).trans hb6;have k2:=(hb6'.cell (p:=⟨b1,o1+m,none⟩) hb2).trans g2;have k3:=(hb6'.cell (p:=⟨b1,o1+j,none⟩) hb3).trans g3;have HB6:=zz (HB5.out.trans (hb6'.mono HB5.out.size));clear hb6 hb6'))
       all_goals
        go_wp2
        go_roundw
        case rel=>exact ⟨j+1,hlt,by go_num,HR2.out,HB6.out⟩
        case measure=>simp [intOf];omega
    ·have HR2:=zz (show lbChk (ss.getD j [])=E from by rw [<-HBAD.out hz];exact HR.out);have j1:(lbChk (ss.getD j []) !=0)=true:=bne_iff_ne.2 hz;have j2:(lbChk (ss.getD j [])==0)=false:=beq_eq_false_iff_ne.2 hz;generalize lbChk (ss.getD j [])=E2 at *;generalize (ss.getD j []).length=nl at *;clear hz HBAD HNX
     go_wp2_with (first|(go_at_call 76;refine HCK.out.mono ?_;rintro e w5 ⟨rfl,hb5⟩;have HB5:=zz (below_then HB.out hb5);clear hb5))
     go_ret;exact ⟨ret_ix HR2.out,HB5.out⟩
   ·obtain rfl:j=ss.length:=by omega
    have HR2:=zz (show (0:Int)=E from by rw [<-restC_end ss];exact HR.out);clear hr hb
    go_wp2_with fail
    go_ret;exact ⟨ret_ix HR2.out,HB.out⟩
theorem sets_next{ss:List (List Lbl)}{k:Nat}(h:k<ss.length):ss.take (k+1)=ss.take k++[ss.getD k []]:=by
 rw [List.take_succ_eq_append_getElem h,List.getD_eq_getElem?_getD,List.getElem?_eq_getElem h];rfl
set_option maxHeartbeats 1000000 in
theorem texts_ref(V:Option Addr)(ss:List (List Lbl))(c:Nat)(w:World)(hV:Sets w V ss)(h256:ss.length<=256)(h8:∀l∈ss,l.length<=8):
 Calls Tryz.prog 109 #[.slice V ss.length c] w (TxTold w (ixTexts ss)):=by
 have HV:=zz (fun (x:World) (h:Below w.heap.size w x)=>hV.below h);have HL:=zz (fun i k=>acc_len (fun x:Lbl=>x.2) (namesOf ss) h256 h8 i k);have HB0:=zz (show ((namesOf ss)).length<=2100 from by have:=flat8 (fun x:Lbl=>x.1) ss h8;unfold namesOf;omega);have H8:=zz (getD_mem8 h8);have H256:=zz h256;have HEND:=zz (show setF cmpB (accL (fun x:Lbl=>x.2) (namesOf ss) ss ss.length 0)=ixTexts ss from by rw [acc_end];rfl);have HNX:=zz (fun i k (hk:k<(ss.getD i []).length)=>acc_with (fun x:Lbl=>x.2) (namesOf ss) ss i hk);have HROW:=zz (fun i (hi:i<ss.length)=>acc_row (fun x:Lbl=>x.2) (namesOf ss) ss hi);have HNM:=zz (names_ref V ss c w hV h256 h8);have HZ:=zz (show setF cmpB (accL (fun x:Lbl=>x.2) (namesOf ss) ss 0 0)=ixNames ss from by unfold accL;simp [ixNames]);clear hV h256 h8;go_enter Tryz.func109,Tryz.ntmps109
 go_wp2_with fail
 refine HNM.out.mono ?_;rintro e w2 ⟨P0,c0,rfl,hT0,hc0,hb0⟩;have HT0:=zz hT0;have HC0:=zz hc0;have HB0x:=zz hb0;rw [<-HZ.out] at HT0 HC0 ⊢;clear hT0 hc0 hb0
 go_wp2_with fail
 go_loopw [3,4] (fun u i wr=>∃(j:Nat) (P:Option Addr) (cu:Nat),j<=ss.length/\i=.int .i64 (j:Int)/\u=.slice P (setF cmpB (accL (fun x:Lbl=>x.2) (namesOf ss) ss j 0)).length cu/\Tx wr P (setF cmpB (accL (fun x:Lbl=>x.2) (namesOf ss) ss j 0))/\(setF cmpB (accL (fun x:Lbl=>x.2) (namesOf ss) ss j 0)).length<=cu/\Below w.heap.size w wr) (fun _ i _=>ss.length-(intOf i).toNat)
 case atStart=>exact ⟨0,P0,c0,Nat.zero_le _,rfl,rfl,HT0.out,HC0.out,HB0x.out⟩
 case round =>
  obtain ⟨j,P,cu,hj,rfl,rfl,hT,hcu,hb⟩:=hrel
  by_cases hlt:j<ss.length
  ·have HR:=zz (HROW.out j hlt);have HT:=zz hT;have HCU:=zz hcu;have HB:=zz hb;have i1:(j:Int)<(ss.length:Int):=by omega
   have h8j:=H8.out j;clear hT hcu hb
   go_wp2_with fail
   go_loopw [3,5] (fun u i wr=>∃(k:Nat) (P:Option Addr) (cu:Nat),k<=(ss.getD j []).length/\i=.int .i64 (k:Int)/\u=.slice P (setF cmpB (accL (fun x:Lbl=>x.2) (namesOf ss) ss j k)).length cu/\Tx wr P (setF cmpB (accL (fun x:Lbl=>x.2) (namesOf ss) ss j k))/\(setF cmpB (accL (fun x:Lbl=>x.2) (namesOf ss) ss j k)).length<=cu/\Below w.heap.size w wr) (fun _ i _=>(ss.getD j []).length-(intOf i).toNat)
   case atStart=>exact ⟨0,P,cu,Nat.zero_le _,rfl,rfl,HT.out,HCU.out,HB.out⟩
   case round =>
    obtain ⟨k,P2,cu2,hk,rfl,rfl,hT2,hcu2,hb2⟩:=hrel;obtain ⟨b1,o1,A1,c1,e1,hb1,g0,hL1,hlc1⟩:=(HV.out _ hb2).at_ hlt;subst e1;have HT2:=zz hT2;have HCU2:=zz hcu2;have HB2:=zz hb2;have HR2:=zz HR.out
    by_cases hkl:k<(ss.getD j []).length
    ·obtain ⟨b2,o2,rfl,hb3,x1,x2⟩:=hL1.at_ hkl;have HW:=zz (with_ref P2 (setF cmpB (accL (fun x:Lbl=>x.2) (namesOf ss) ss j k)) cu2 ((fun x:Lbl=>x.2) ((ss.getD j []).getD k lbl0)) wr hT2 hcu2 (setF_up cmpB_cmp _) (by have:=HL.out j k;have:=HB0.out;omega));rw [HNX.out j k hkl] at HW;clear hT2 hcu2 hb2 hL1;unfold nmOf at x1;unfold vlOf at x2;obtain ⟨L2,hL2⟩:∃L,setF cmpB (accL (fun x:Lbl=>x.2) (namesOf ss) ss j (k+1))=L:=⟨_,rfl⟩;rw [hL2] at HW;have HL2:=zz hL2;clear hL2;generalize (setF cmpB (accL (fun x:Lbl=>x.2) (namesOf ss) ss j k)).length=n1 at *;generalize (ss.getD j []).getD k lbl0=y at *;generalize hnl:(ss.getD j []).length=nl at *;have i2:(k:Int)<(nl:Int):=by omega
     go_wp2_with (first|(go_at_call 149;refine HW.out.mono ?_;rintro e w5 ⟨P5,c5,rfl,hT5,hc5,hb5⟩;have HT5:=zz hT5;have HC5:=zz hc5;have HB5:=zz (below_then HB2.out hb5);clear hT5 hc5 hb5))
     go_roundw
     case rel=>exact ⟨k+1,P5,c5,by omega,by go_num,by rw [HL2.out],by rw [HL2.out];exact HT5.out,by rw [HL2.out];exact HC5.out,HB5.out⟩
     case measure=>simp [intOf];omega
    ·have hkk:k=(ss.getD j []).length:=by omega
     have HR3:=zz (show accL (fun x:Lbl=>x.2) (namesOf ss) ss j k=accL (fun x:Lbl=>x.2) (namesOf ss) ss (j+1) 0 from by rw [hkk];exact HR2.out);rw [HR3.out] at HT2 HCU2 ⊢;clear hT2 hcu2 hb2 hL1;obtain ⟨L2,hL2⟩:∃L,setF cmpB (accL (fun x:Lbl=>x.2) (namesOf ss) ss (j+1) 0)=L:=⟨_,rfl⟩;rw [hL2] at HT2 HCU2 ⊢;have HL2:=zz hL2;clear hL2;generalize hnl:(ss.getD j []).length=nl at *;subst hkk;have h256b:=H256.out
     go_wp2_with fail
     go_roundw
     case rel=>exact ⟨j+1,P2,cu2,hlt,by go_num,by rw [HL2.out],by rw [HL2.out];exact HT2.out,by rw [HL2.out];exact HCU2.out,HB2.out⟩
     case measure=>simp [intOf];omega
  ·obtain rfl:j=ss.length:=by omega
   rw [HEND.out] at hT hcu ⊢;have HT:=zz hT;have HCU:=zz hcu;have HB:=zz hb;clear hT hcu hb;generalize ixTexts ss=L2 at *
   go_wp2_with fail
   go_ret;exact ⟨P,cu,rfl,HT.out,HCU.out,HB.out⟩
end Go.Proofs.YtgdmcnoogacdaaaGreatDoor
